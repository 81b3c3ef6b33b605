/-
  upoly.takeTimes.
-/
import Derived.Test.YtakfimhpnpapdaaGreatDoorWfUuUx
import Derived.Test.YtakfimhpnpapdaaGreatDoorBeRd
import Derived.Test.YtakfimhpnpapdaaGreatDoorUbUcUdOwRa
import Derived.Test.YtakfimhpnpapdaaGreatDoorWlBxBbCvNj
namespace Go.Proofs.YtakfimhpnpapdaaGreatDoor
open Go.RowKit
set_option linter.unusedVariables false
set_option linter.unusedSimpArgs false

theorem Sub_ev {w : World} {K L : Nat} {x y : Int} {e f : Ent} (h : EV w K x e) (k : EV w L y f) : Calls Tryz.prog 75 #[.agg #[.bool e.s, .slice e.p e.n e.c], .agg #[.bool f.s, .slice f.p f.n f.c]] w fun r w' => ∃ u : Ent, r = .returned (.agg #[.bool u.s, .slice u.p u.n u.c]) ∧ NV w.heap.size w' (K + L + 1) (x - y) u ∧ Below w.heap.size w w' := by
  obtain ⟨xs, h1, rfl, h3⟩ := h
  obtain ⟨ys, k1, rfl, k3⟩ := k
  refine (Sub_any e.s f.s e.p f.p e.n e.c f.n f.c xs ys w h1 k1).mono ?_
  rintro r w' ⟨s', p', n', zs, g1, g2, g3, g4⟩
  exact ⟨⟨s', p', n', n'⟩, g1, ⟨zs, g2, rfl, by show n' ≤ _; omega⟩, g4⟩
/-- The entries below T of a list that is written in block g; none lies in g or g2. -/
structure TR (wr : World) (g g2 T M : Nat) (us : List Ent) (F : Nat → Int) : Prop where
  row : RW wr g 29 us
  len : T ≤ us.length
  ev : ∀ t, t < T → EV wr M (F t) (ge us t) ∧ (0 < (ge us t).n → Off g (ge us t).p ∧ Off g2 (ge us t).p)
theorem TR.below {wr w' : World} {g g2 T M : Nat} {us : List Ent} {F : Nat → Int} (h : TR wr g g2 T M us F) (hb : Below wr.heap.size wr w') : TR w' g g2 T M us F :=
  ⟨h.row.below hb h.row.lt, h.len, fun t ht => ⟨(h.ev t ht).1.below hb, (h.ev t ht).2⟩⟩
theorem TR.set {wr : World} {g g2 T M : Nat} {us : List Ent} {F G : Nat → Int} (h : TR wr g g2 T M us F) (t : Nat) (e : Ent) (ht : t < T) (hv : EV wr M (G t) e) (ho : 0 < e.n → Off g e.p ∧ Off g2 e.p) (hG : ∀ s, s < T → s ≠ t → G s = F s) :
    TR ((wr.setCell ⟨g, t * 2, none⟩ (.bool e.s)).setCell ⟨g, t * 2 + 1, none⟩ (.slice e.p e.n e.c)) g g2 T M (us.set t e) G := by
  have hl := h.len
  refine ⟨h.row.set t e (by omega), by simpa using hl, fun s hs => ?_⟩
  by_cases he : s = t
  · subst he
    rw [ge_set_same _ _ _ (by omega)]
    exact ⟨hv.set2 fun h0 => (ho h0).1, ho⟩
  · rw [ge_set_other _ _ _ _ he, hG s hs he]
    exact ⟨(h.ev s hs).1.set2 fun h0 => ((h.ev s hs).2 h0).1, (h.ev s hs).2⟩
/-- What takeTimes makes of the entries, j of them done. -/
def tkf (F : Nat → Int) (x : Int) (ys : List Int) (o j t : Nat) : Int := if o ≤ t ∧ t < o + j then F t - x * gx ys (t - o) else F t
theorem tkf_zero (F : Nat → Int) (x : Int) (ys : List Int) (o t : Nat) : tkf F x ys o 0 t = F t := by rw [tkf, if_neg (by omega)]
theorem tkf_none (F : Nat → Int) (ys : List Int) (o j t : Nat) : tkf F 0 ys o j t = F t := by
  rw [tkf]
  split <;> simp
theorem tkf_same (F : Nat → Int) (x : Int) (ys : List Int) (o j : Nat) : tkf F x ys o (j + 1) (o + j) = tkf F x ys o j (o + j) - x * gx ys j := by
  rw [tkf, tkf, if_pos (by omega), if_neg (by omega), Nat.add_sub_cancel_left]
theorem tkf_other (F : Nat → Int) (x : Int) (ys : List Int) (o j t : Nat) (h : t ≠ o + j) : tkf F x ys o (j + 1) t = tkf F x ys o j t := by
  rw [tkf, tkf]
  by_cases h1 : o ≤ t ∧ t < o + j
  · rw [if_pos (by omega), if_pos h1]
  · rw [if_neg (by omega), if_neg h1]
theorem EV.le {w : World} {K L : Nat} {z : Int} {e : Ent} (h : EV w K z e) (hk : K ≤ L) : EV w L z e := by
  obtain ⟨xs, h1, h2, h3⟩ := h
  exact ⟨xs, h1, h2, Nat.le_trans h3 hk⟩
theorem grown2c {w v3 : World} {g o : Nat} {u v : Value} (h : w.grownBy v3 (some g)) : w.grownBy ((v3.setCell ⟨g, o, none⟩ u).setCell ⟨g, o + 1, none⟩ v) (some g) := grownBy_setCell (grownBy_setCell h _ _) _ _
theorem take_step {w wr v2 v3 : World} {g g2 o r j M M' K L : Nat} {us us' : List Ent} {F : Nat → Int} {q : Option Addr} {m mc : Nat} {fs : List Ent} {ys : List Int} {x : Int} {e e2 : Ent} (hT : TR wr g g2 (o + r) M us' (tkf F x ys o j)) (hP : PA wr L q m mc fs ys) (hX : Bx wr w.heap.size (.bool e.s) (.slice e.p e.n e.c)) (hG : w.grownBy wr (some g)) (hv : EV wr K x e) (hxo : 0 < e.n → Off g e.p) (hq : Off g q) (hqe : ∀ j, j < m → 0 < (ge fs j).n → Off g (ge fs j).p) (hgw : g < w.heap.size) (hg2 : g2 < w.heap.size) (hj : j < r) (hul : us'.length = us.length) (hM : M ≤ 200)
    (hbd : ∀ t, o ≤ t → t < o + r → ((F t - x * gx ys (t - o)).natAbs : Int) < pw M) (hV2 : Below wr.heap.size wr v2) (hb3 : Below v2.heap.size v2 v3) (hN : NV v2.heap.size v3 M' (tkf F x ys o j (o + j) - x * gx ys j) e2) :
    ∃ us'', us''.length = us.length ∧ TR ((v3.setCell ⟨g, (o + j) * 2, none⟩ (.bool e2.s)).setCell ⟨g, (o + j) * 2 + 1, none⟩ (.slice e2.p e2.n e2.c)) g g2 (o + r) M us'' (tkf F x ys o (j + 1)) ∧ PA ((v3.setCell ⟨g, (o + j) * 2, none⟩ (.bool e2.s)).setCell ⟨g, (o + j) * 2 + 1, none⟩ (.slice e2.p e2.n e2.c)) L q m mc fs ys ∧ EV ((v3.setCell ⟨g, (o + j) * 2, none⟩ (.bool e2.s)).setCell ⟨g, (o + j) * 2 + 1, none⟩ (.slice e2.p e2.n e2.c)) K x e ∧ Bx ((v3.setCell ⟨g, (o + j) * 2, none⟩ (.bool e2.s)).setCell ⟨g, (o + j) * 2 + 1, none⟩ (.slice e2.p e2.n e2.c)) w.heap.size (.bool e.s) (.slice e.p e.n e.c) ∧ w.grownBy ((v3.setCell ⟨g, (o + j) * 2, none⟩ (.bool e2.s)).setCell ⟨g, (o + j) * 2 + 1, none⟩ (.slice e2.p e2.n e2.c)) (some g) := by
  have hb := bnext' hV2 hb3
  rw [← tkf_same] at hN
  have hz : ((tkf F x ys o (j + 1) (o + j)).natAbs : Int) < pw M := by
    have := hbd (o + j) (by omega) (by omega)
    rw [tkf, if_pos (by omega)]
    exact this
  have hN' := hN.le hz
  have hs := hV2.size
  have hlt := hT.row.lt
  have hwl := block_lt_of_cell hX.c0
  have hoff : 0 < e2.n → Off g e2.p ∧ Off g2 e2.p := fun h0 => by
    obtain ⟨xs, k1, -⟩ := hN
    exact ⟨off_from k1.fr (by omega), off_from k1.fr (by simp at hwl; omega)⟩
  refine ⟨us'.set (o + j) e2, by simpa using hul, ?_, (hP.below hb).gset (fun _ => hq) hqe, (hv.below hb).set2 hxo, Bx_any (hX.later hb) (by omega), grown2c (grownBy_trans hG (grownBy_below hb _))⟩
  exact (hT.below hb).set (o + j) e2 (by omega) (hN'.ev (by omega)) hoff (fun s _ hne => tkf_other F x ys o j s hne)
set_option maxHeartbeats 4000000 in
set_option maxRecDepth 100000 in
/-- upoly.takeTimes. -/
theorem utake_any {w : World} {g g2 o r rc M K L : Nat} {us : List Ent} {F : Nat → Int} {q : Option Addr} {m mc : Nat} {fs : List Ent} {ys : List Int} {x : Int} {e : Ent} (h : TR w g g2 (o + r) M us F) (hg2 : g2 < w.heap.size) (k : PA w L q m mc fs ys) (hq : Off g q) (hqe : ∀ j, j < m → 0 < (ge fs j).n → Off g (ge fs j).p) (hx : EV w K x e) (hxo : 0 < e.n → Off g e.p) (hrm : r ≤ m) (hm : m ≤ 1000) (hr : r ≤ rc) (hrc : rc ≤ 9223372036854775807) (hK : K < 80) (hL : L < 80) (hM : M ≤ 200) (ho : o ≤ 100000)
    (hbd : ∀ t, o ≤ t → t < o + r → ((F t - x * gx ys (t - o)).natAbs : Int) < pw M) :
    Calls Tryz.prog 97 #[.slice (some ⟨g, o * 2, none⟩) r rc, .slice q m mc, .agg #[.bool e.s, .slice e.p e.n e.c]] w fun r' w' => ∃ us', r' = .returned (.tuple #[]) ∧ us'.length = us.length ∧ TR w' g g2 (o + r) M us' (tkf F x ys o r) ∧ w.grownBy w' (some g) := by
  have hfl := k.el
  have hyl := k.zl
  go_enter Tryz.func97, Tryz.ntmps97
  go_wp2_with fail
  have hal := bel_al (o := .cells #[.bool e.s, .slice e.p e.n e.c] 29) (Below.refl w.heap.size w)
  have hX1 : Bx (w.alloc (.cells #[.bool e.s, .slice e.p e.n e.c] 29)) w.heap.size (.bool e.s) (.slice e.p e.n e.c) := Bx.new _ _ _ rfl
  have hgw : g < w.heap.size := h.row.lt
  have h1 := h.below hal
  have k1 := k.below hal
  have hx1 := hx.below hal
  generalize w.alloc (.cells #[.bool e.s, .slice e.p e.n e.c] 29) = W1 at *
  refine (isZero_any hx1).mono ?_
  rintro r' v1 ⟨rfl, hb1⟩
  have hX2 := hX1.later hb1
  have hx2 := hx1.below hb1
  have h2 := h1.below hb1
  have k2 := k1.below hb1
  have hB2 := bnext' hal hb1
  clear hX1 hx1 h1 k1 hal hb1 h k hx
  have hcs : Hid (x = 0 ∨ ¬ x = 0) := Classical.em _
  rcases hcs.out with hz | hz
  · rw [decide_eq_true hz]
    have HZ : Hid (x = 0) := hz
    have HI : Hid (TR v1 g g2 (o + r) M us F ∧ Below w.heap.size w v1) := ⟨h2, hB2⟩
    clear hz hcs h2 k2 hx2 hX2 hB2 hbd hqe
    go_wp2
    (try simp only [Exit.inBlock, Exit.then])
    refine bodyPost_ret (results_none rfl _ _ _) rfl ?_
    refine ⟨us, rfl, rfl, ⟨HI.out.1.row, HI.out.1.len, fun t ht => ?_⟩, grownBy_below HI.out.2 _⟩
    rw [HZ.out, tkf_none]
    exact HI.out.1.ev t ht
  · rw [decide_eq_false hz]
    clear hz hcs
    have HQ : Hid (∀ j, j < m → 0 < (ge fs j).n → Off g (ge fs j).p) := hqe
    have HBD := (show Hid _ from hbd)
    clear hqe hbd
    have HA : Hid (PA v1 L q m mc fs ys ∧ TR v1 g g2 (o + r) M us F ∧ EV v1 K x e ∧ Bx v1 w.heap.size (.bool e.s) (.slice e.p e.n e.c) ∧ Below w.heap.size w v1) := ⟨k2, h2, hx2, hX2, hB2⟩
    clear k2 h2 hx2 hX2 hB2
    go_wp2_with fail
    go_loopw [6, 11] (fun jv kv wr => ∃ j : Nat, j ≤ r ∧ kv = .int .i64 j ∧ Hid (∃ us', us'.length = us.length ∧ TR wr g g2 (o + r) M us' (tkf F x ys o j) ∧ PA wr L q m mc fs ys ∧ EV wr K x e ∧ Bx wr w.heap.size (.bool e.s) (.slice e.p e.n e.c) ∧ w.grownBy wr (some g))) (fun _ kv _ => r - (intOf kv).toNat)
    case atStart => exact ⟨0, Nat.zero_le _, by go_num, us, rfl, ⟨HA.out.2.1.row, HA.out.2.1.len, fun t ht => by rw [tkf_zero]; exact HA.out.2.1.ev t ht⟩, HA.out.1, HA.out.2.2.1, HA.out.2.2.2.1, grownBy_below HA.out.2.2.2.2 _⟩
    case round =>
      clear HA
      obtain ⟨j, hj, rfl, HJ⟩ := hrel
      rcases Nat.lt_or_ge j r with hlt | hge
      · obtain ⟨us', hul, hT, hP, hv, hX, hG⟩ := HJ.out
        obtain ⟨c, s, hq', hd⟩ := hP.pl (by omega)
        subst hq'
        obtain ⟨d0, d1⟩ := hd j (by omega)
        have hu := hP.ev j (by omega)
        have hTl := hT.len
        have eo : o * 2 + j * 2 = (o + j) * 2 := by omega
        obtain ⟨x0, x1⟩ := hT.row.cell (o + j) (by omega)
        obtain ⟨a0, a1, -, -⟩ := id hX
        have HE : Hid (TR wr g g2 (o + r) M us' (tkf F x ys o j) ∧ PA wr L (some ⟨c, s, none⟩) m mc fs ys ∧ Bx wr w.heap.size (.bool e.s) (.slice e.p e.n e.c) ∧ w.grownBy wr (some g)) := ⟨hT, hP, hX, hG⟩
        have hjm : (j : Int) < (m : Int) := by omega
        have hjr : (j : Int) < (r : Int) := by omega
        clear hT hP hX hG HJ hd
        go_upto_region 5 with fail
        go_region_with (first
          | (go_at_call 63; refine (Mul_ev hv.drew hu.drew hK).mono ?_; rintro r' v2 ⟨e1, rfl, hN1, hb2⟩; have hV2 := undrew hb2; have hT2 := HE.out.1.below hV2; obtain ⟨y0, y1⟩ := hT2.row.cell (o + j) (by omega))
          | (go_at_call 75; refine (Sub_ev (hT2.ev (o + j) (by omega)).1 (hN1.ev (by omega))).mono ?_; rintro r' v3 ⟨e2, rfl, hN2, hb3⟩; have hT3 := hT2.below hb3; obtain ⟨z0, z1⟩ := hT3.row.cell (o + j) (by omega); have f0 := hT3.row.frozen ((o + j) * 2); have f1 := hT3.row.frozen ((o + j) * 2 + 1)))
        all_goals
          have hstep := take_step (us := us) HE.out.1 HE.out.2.1 HE.out.2.2.1 HE.out.2.2.2 hv hxo hq HQ.out hgw hg2 hlt hul hM HBD.out hV2 hb3 hN2
          have HST := (show Hid _ from hstep)
          clear hstep x0 x1 a0 a1 d0 d1 y0 y1 HE hN1 hN2 hT2 hT3 hv hu z0 z1 f0 f1
          go_wp2
          refine ⟨⟨j + 1, by omega, by go_num, HST.out⟩, by simp [intOf]; omega⟩
      · obtain rfl : j = r := by omega
        clear hge
        go_wp2
        go_end0
        obtain ⟨us', hul, hT, hP, hv, hX, hG⟩ := HJ.out
        exact ⟨us', rfl, hul, hT, hG⟩
end Go.Proofs.YtakfimhpnpapdaaGreatDoor
/-
  ashlarref1.Eq, where both are the same.
-/
namespace Go.Proofs.YtakfimhpnpapdaaGreatDoor
open Go.RowKit
set_option linter.unusedVariables false
set_option linter.unusedSimpArgs false

set_option maxHeartbeats 1000000 in
/-- ashlarref1.Eq: the same. -/
theorem rEq_same (s : Bool) (p q : Option Addr) (n nc mc : Nat) (xs : List Int) (w : World) (hA : AI w p n nc xs) (hB : AI w q n mc xs) :
    Calls Tryz.prog 48 #[.agg #[.bool s, .slice p n nc], .agg #[.bool s, .slice q n mc]] w fun e w' => e = .returned (.bool true) ∧ Below w.heap.size w w' := by
  have hl := hA.len
  have hsm := hA.sml
  have hss : (s != s) = false := by cases s <;> rfl
  have hnn : ((n : Int) != (n : Int)) = false := by simp
  go_enter Tryz.func48, Tryz.ntmps48
  go_wp2
  have hX := boxes2 w (.bool s) (.slice p n nc) (.bool s) (.slice q n mc) 29 29
  generalize ((w.alloc (Obj.cells #[Value.bool s, Value.slice p n nc] 29)).alloc (Obj.cells #[Value.bool s, Value.slice q n mc] 29)) = W at *
  go_loopw [5] (fun iv wr => ∃ k : Nat, k ≤ n ∧ iv = .int .i64 k ∧ Hid (Below W.heap.size W wr)) (fun iv _ => n - (intOf iv).toNat)
  case atStart => exact ⟨0, Nat.zero_le _, rfl, Below.refl _ _⟩
  case round =>
    obtain ⟨k, hk, rfl, H⟩ := hrel
    have hXr := hX.later H.out
    have k1 := hXr.ca1
    have k3 := hXr.cb1
    by_cases hlt : k < n
    · have hltI : (k : Int) < (n : Int) := by omega
      obtain ⟨b1, o1, rfl, hc1⟩ := ((hA.below hX.below).rd.below H.out) (by omega)
      obtain ⟨b2, o2, rfl, hc2⟩ := ((hB.below hX.below).rd.below H.out) (by omega)
      have g1 := hc1 k (by omega)
      have g2 := hc2 k (by omega)
      have hq : (gx xs k != gx xs k) = false := by simp
      clear hc1 hc2 hXr
      go_wp2
      go_quiet (fail)
      go_wp2
      refine ⟨⟨k + 1, by omega, by go_num, below_drewN H.out nq⟩, by simp [intOf]; omega⟩
    · have hltI : ¬ (k : Int) < (n : Int) := by omega
      go_wp2
      go_ret
      exact ⟨rfl, hX.below.trans (H.out.mono hX.below.size)⟩

/-- ashlarref1.Eq of two answers with the same number. -/
theorem rEq_ni {B1 B2 : Nat} {w : World} {s t : Bool} {p q : Option Addr} {n m : Nat} {xs ys : List Int} {z : Int} (h : NI B1 w s p n xs z) (k : NI B2 w t q m ys z) (hn : n ≤ 1000) :
    Calls Tryz.prog 48 #[.agg #[.bool s, .slice p n n], .agg #[.bool t, .slice q m m]] w fun e w' => e = .returned (.bool true) ∧ Below w.heap.size w w' := by
  obtain ⟨rfl, rfl⟩ := nn_same h.nn k.nn
  obtain rfl : n = m := h.len.symm.trans k.len
  exact rEq_same s p q n n n xs w (h.ai (by omega)) (k.ai (by omega))
end Go.Proofs.YtakfimhpnpapdaaGreatDoor
/-
  Small rules for digits.
-/
namespace Go.Proofs.YtakfimhpnpapdaaGreatDoor
open Go.RowKit
set_option linter.unusedVariables false
set_option linter.unusedSimpArgs false

theorem info_int : (Tryz.prog.info? 3).map (fun i => (i.zero, i.size, i.bytes)) = some (some (.int .i64 0), 1, 8) := by kernel_rfl
theorem spl_snoc (xs : List Int) (k : Nat) (h : k < xs.length) : spl (xs.take (k + 1)) = spl (xs.take k) ++ [gx xs k % 65536, gx xs k / 65536] := by
  rw [take_snoc xs k h, spl_append]; rfl

theorem bel_alw {W x : World} {o : Obj} (h : Below W.heap.size W x) : Below W.heap.size W (x.alloc o) := h.alloc h.size o

end Go.Proofs.YtakfimhpnpapdaaGreatDoor
/-
  ashlarref1.To.
-/
namespace Go.Proofs.YtakfimhpnpapdaaGreatDoor
open Go.RowKit
set_option linter.unusedVariables false
set_option linter.unusedSimpArgs false

set_option maxRecDepth 100000 in
set_option maxHeartbeats 2000000 in
/-- ashlarref1.To. -/
theorem rTo_anyF (s : Bool) (p : Option Addr) (n nc : Nat) (ds : List Int) (w : World) (hl : ds.length = n) (hs : n ≤ 1000) (hX : Rd w p .i64 ds) (hU : U16 ds) :
    Calls Tryz.prog 49 #[.agg #[.bool s, .slice p n nc]] w fun e w' => ∃ p' m cap, e = .returned (.agg #[.bool s, .slice p' m cap]) ∧ AI w' p' m cap (jn ds m) ∧ Hid (m = (n + 1) / 2) ∧ Go.Proofs.YtakfimhpnpapdaaGreatDoor.From w.heap.size p' ∧ Below w.heap.size w w' := by
  obtain ⟨i0, hi, hzz⟩ := Option.map_eq_some_iff.1 info_u32
  simp only [Prod.mk.injEq] at hzz
  obtain ⟨hz0, hz1, hz2⟩ := hzz
  have HI : Hid (Tryz.prog.info? 26 = some i0 ∧ i0.zero = some (.int .u32 0) ∧ i0.size = 1 ∧ i0.bytes = 4) := ⟨hi, hz0, hz1, hz2⟩
  clear hi hz0 hz1 hz2
  go_enter Tryz.func49, Tryz.ntmps49
  go_wp2
  have hb1 : Bx ((w.alloc (.cells #[.bool s, .slice p n nc] 46)).alloc (.cells #[.bool false, .slice none 0 0] 29)) w.heap.size (.bool s) (.slice p n nc) := (Bx.new _ _ _ rfl).alloc _
  have hb2 : Bx ((w.alloc (.cells #[.bool s, .slice p n nc] 46)).alloc (.cells #[.bool false, .slice none 0 0] 29)) (w.heap.size + 1) (.bool false) (.slice none 0 0) := Bx.new _ _ _ (World.size_alloc ..).symm
  have hbw : Below w.heap.size w ((w.alloc (.cells #[.bool s, .slice p n nc] 46)).alloc (.cells #[.bool false, .slice none 0 0] 29)) := ((Below.refl _ _).alloc (Nat.le_refl _) _).alloc (by simp) _
  have hsz : ((w.alloc (.cells #[.bool s, .slice p n nc] 46)).alloc (.cells #[.bool false, .slice none 0 0] 29)).heap.size = w.heap.size + 1 + 1 := by simp
  generalize ((w.alloc (.cells #[.bool s, .slice p n nc] 46)).alloc (.cells #[.bool false, .slice none 0 0] 29)) = W at *
  have HS : Hid (W.heap.size = w.heap.size + 1 + 1) := hsz
  clear hsz
  have hXW := hX.below hbw
  go_loopw [3, 4, 5] (fun lv iv nv wr => ∃ (k : Nat), 2 * k ≤ n + 1 ∧ iv = .int .i64 ((2 * k : Nat) : Int) ∧ Hid (wr.ownsRow W.heap.size 26 1 lv k ((jn ds k).map (Value.int .u32)) ∧ Below W.heap.size W wr)) (fun _ iv _ _ => n + 2 - (intOf iv).toNat)
  case atStart => exact ⟨0, by omega, rfl, World.ownsRow_nil _ _ _ _, Below.refl _ _⟩
  case round =>
    obtain ⟨k, hk, rfl, H⟩ := hrel
    have hBr := H.out.2
    have hb1r := hb1.later hBr
    have hb2r := hb2.later hBr
    have k0 := hb1r.c0
    have k1 := hb1r.c1
    by_cases hlt : 2 * k < n
    · obtain ⟨b, off, rfl, hcell⟩ := (hXW.below hBr) (by omega)
      have hck := hcell (2 * k) (by omega)
      have hltI : 2 * (k : Int) < (n : Int) := by omega
      obtain ⟨x0, x1⟩ := hU (2 * k)
      obtain ⟨y0, y1⟩ := hU (2 * k + 1)
      obtain ⟨hi, hz0, hz1, hz2⟩ := HI.out
      have HO : Hid (wr.ownsRow W.heap.size 26 1 u3 k ((jn ds k).map (Value.int .u32))) := H.out.1
      by_cases hlt2 : 2 * k + 1 < n
      · have hck2 := hcell (2 * k + 1) (by omega)
        have hlt2I : 2 * (k : Int) + 1 < (n : Int) := by omega
        clear hcell
        go_wp2_with (refine wpList_append_lies _ rfl _ _ 27 rfl W.heap.size 26 i0 (.int .u32 0) 1 4 Tryz.underlying27 hi hz0 hz1 hz2 rfl (by decide) u3 k ((jn ds k).map (Value.int .u32)) rfl (HO.out.alloc _) ⟨wr.heap.size, 0, none⟩ 1 1 [.int .u32 (gx ds (2 * k) + gx ds (2 * k + 1) * 65536)] rfl rfl ?_ (fun x hx => by simp at hx; subst hx; rfl) (by decide) (by unfold maxLen; omega) (by omega) (by have := hBr.size; simp; omega) _ rfl ?_; exact World.news_of_block (heap_alloc_new wr _); intro g cap w3 hown3 hgrow3 hat3 hlt3; have hB3 : Below W.heap.size W w3 := (bel_alw hBr).grown hgrow3 (by have := hBr.size; simp; omega) (fun q hq => (HO.out.lt q hq).1))
        refine ⟨⟨k + 1, by omega, by go_num, ?_, hB3⟩, by simp [intOf]; omega⟩
        rw [jn_succ, List.map_append, Int.mul_comm 65536]
        exact hown3
      · have hlt2I : ¬ 2 * (k : Int) + 1 < (n : Int) := by omega
        clear hcell
        go_wp2_with (refine wpList_append_lies _ rfl _ _ 27 rfl W.heap.size 26 i0 (.int .u32 0) 1 4 Tryz.underlying27 hi hz0 hz1 hz2 rfl (by decide) u3 k ((jn ds k).map (Value.int .u32)) rfl (HO.out.alloc _) ⟨wr.heap.size, 0, none⟩ 1 1 [.int .u32 (gx ds (2 * k))] rfl rfl ?_ (fun x hx => by simp at hx; subst hx; rfl) (by decide) (by unfold maxLen; omega) (by omega) (by have := hBr.size; simp; omega) _ rfl ?_; exact World.news_of_block (heap_alloc_new wr _); intro g cap w3 hown3 hgrow3 hat3 hlt3; have hB3 : Below W.heap.size W w3 := (bel_alw hBr).grown hgrow3 (by have := hBr.size; simp; omega) (fun q hq => (HO.out.lt q hq).1))
        have hg0 : gx ds (2 * k + 1) = 0 := gx_past ds n (by omega) _ (by omega)
        refine ⟨⟨k + 1, by omega, by go_num, ?_, hB3⟩, by simp [intOf]; omega⟩
        rw [jn_succ, List.map_append, hg0, Int.mul_zero, Int.add_zero]
        exact hown3
    · have hltI : ¬ 2 * (k : Int) < (n : Int) := by omega
      have c0 := hb2r.c0
      have c1 := hb2r.c1
      have f0 := hb2r.f0
      have f1 := hb2r.f1
      have hform : ∃ q cap, u3 = .slice q k cap ∧ k ≤ cap ∧ cap ≤ maxLen ∧ Rd wr q .u32 (jn ds k) ∧ Go.Proofs.YtakfimhpnpapdaaGreatDoor.From W.heap.size q := by
        have hown := H.out.1
        rcases hown.2 with ⟨h1, h2⟩ | ⟨g, cap, cur, h1, hbg, _, h4, h5, _⟩
        · refine ⟨none, 0, by rw [h1, h2], by omega, Nat.zero_le _, ?_, from_none⟩
          have : jn ds k = [] := List.eq_nil_of_length_eq_zero (by rw [length_jn]; omega)
          rw [this]; exact Rd.nil
        · subst h1
          exact ⟨_, cap, rfl, h4, h5, rd_owns hown, from_new hbg⟩
      obtain ⟨q, cap, rfl, hq1, hq2, hq3, hq4⟩ := hform
      go_wp2
      have hsW := HS.out
      refine bodyPost_ret (v := .agg #[.bool s, .slice q k cap]) (by simp [results, Tryz.results49, go_sem, c0, c1]) rfl ?_
      refine ⟨q, k, cap, rfl, ⟨length_jn _ _, hq1, hq2, by omega, ?_, u32_jn hU k⟩, show k = (n + 1) / 2 by omega, fun a ha => by have := hq4 a ha; omega, ?_⟩
      · exact (hq3.set_other _ _ (fun a ha => by have := hq4 a ha; simp; omega)).set_other _ _ (fun a ha => by have := hq4 a ha; simp; omega)
      · exact ((hbw.trans (hBr.mono hbw.size)).setCell (by simp) _).setCell (by simp) _

theorem rTo_any (s : Bool) (p : Option Addr) (n nc : Nat) (ds : List Int) (w : World) (hl : ds.length = n) (hs : n ≤ 1000) (hX : Rd w p .i64 ds) (hU : U16 ds) :
    Calls Tryz.prog 49 #[.agg #[.bool s, .slice p n nc]] w fun e w' => ∃ p' m cap, e = .returned (.agg #[.bool s, .slice p' m cap]) ∧ AI w' p' m cap (jn ds m) ∧ Hid (m = (n + 1) / 2) ∧ Below w.heap.size w w' := by
  refine (rTo_anyF s p n nc ds w hl hs hX hU).mono ?_
  rintro e w' ⟨p', m, cap, h1, h2, h3, -, h5⟩
  exact ⟨p', m, cap, h1, h2, h3, h5⟩
/-- ashlarref1.Eq of an answer and of a number in normal form, both of the same number. -/
theorem rEq_nn {B1 : Nat} {w : World} {s t : Bool} {p q : Option Addr} {n m mc : Nat} {xs ys : List Int} {z : Int} (h : NI B1 w s p n xs z) (hA : AI w q m mc ys) (k : NN t ys z) (hn : n ≤ 1000) :
    Calls Tryz.prog 48 #[.agg #[.bool s, .slice p n n], .agg #[.bool t, .slice q m mc]] w fun e w' => e = .returned (.bool true) ∧ Below w.heap.size w w' := by
  obtain ⟨rfl, rfl⟩ := nn_same h.nn k
  obtain rfl : n = m := h.len.symm.trans hA.len
  exact rEq_same s p q n n mc xs w (h.ai (by omega)) hA

end Go.Proofs.YtakfimhpnpapdaaGreatDoor
