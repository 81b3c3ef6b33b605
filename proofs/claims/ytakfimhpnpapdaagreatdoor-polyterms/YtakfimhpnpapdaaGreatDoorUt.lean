/-
  upoly.takeTimes.
-/
import Derived.Test.YtakfimhpnpapdaaGreatDoorWfUuUx
namespace Go.Proofs.YtakfimhpnpapdaaGreatDoor
open Go.RowKit
set_option linter.unusedVariables false
set_option linter.unusedSimpArgs false

theorem Sub_ev {w : World} {K L : Nat} {x y : Int} {e f : Ent} (h : EV w K x e) (k : EV w L y f) : Calls Tryz.prog 75 #[.agg #[.bool e.s, .slice e.p e.n e.c], .agg #[.bool f.s, .slice f.p f.n f.c]] w fun r w' => ∃ u : Ent, r = .returned (.agg #[.bool u.s, .slice u.p u.n u.c]) ∧ NV w.heap.size w' (K + L + 1) (x - y) u ∧ Below w.heap.size w w' := by
  obtain ⟨xs, h1, rfl, h3⟩ := h
  obtain ⟨ys, k1, rfl, k3⟩ := k
  refine (Sub_any e.s f.s e.p f.p e.n e.c f.n f.c xs ys w h1 k1).mono ?_
  rintro r w' ⟨s', p', n', zs, g1, g2, g3, g4⟩
  exact ⟨⟨s', p', n', n'⟩, g1, ⟨zs, g2, rfl, by show n' ≤ _; omega⟩, g4⟩
/-- The entries below T of a list that is written in block g; none lies in g or g2. -/
structure TR (wr : World) (g g2 T M : Nat) (us : List Ent) (F : Nat → Int) : Prop where
  row : RW wr g 29 us
  len : T ≤ us.length
  ev : ∀ t, t < T → EV wr M (F t) (ge us t) ∧ (0 < (ge us t).n → Off g (ge us t).p ∧ Off g2 (ge us t).p)
theorem TR.below {wr w' : World} {g g2 T M : Nat} {us : List Ent} {F : Nat → Int} (h : TR wr g g2 T M us F) (hb : Below wr.heap.size wr w') : TR w' g g2 T M us F :=
  ⟨h.row.below hb h.row.lt, h.len, fun t ht => ⟨(h.ev t ht).1.below hb, (h.ev t ht).2⟩⟩
theorem TR.set {wr : World} {g g2 T M : Nat} {us : List Ent} {F G : Nat → Int} (h : TR wr g g2 T M us F) (t : Nat) (e : Ent) (ht : t < T) (hv : EV wr M (G t) e) (ho : 0 < e.n → Off g e.p ∧ Off g2 e.p) (hG : ∀ s, s < T → s ≠ t → G s = F s) :
    TR ((wr.setCell ⟨g, t * 2, none⟩ (.bool e.s)).setCell ⟨g, t * 2 + 1, none⟩ (.slice e.p e.n e.c)) g g2 T M (us.set t e) G := by
  have hl := h.len
  refine ⟨h.row.set t e (by omega), by simpa using hl, fun s hs => ?_⟩
  by_cases he : s = t
  · subst he
    rw [ge_set_same _ _ _ (by omega)]
    exact ⟨hv.set2 fun h0 => (ho h0).1, ho⟩
  · rw [ge_set_other _ _ _ _ he, hG s hs he]
    exact ⟨(h.ev s hs).1.set2 fun h0 => ((h.ev s hs).2 h0).1, (h.ev s hs).2⟩
/-- What takeTimes makes of the entries, j of them done. -/
def tkf (F : Nat → Int) (x : Int) (ys : List Int) (o j t : Nat) : Int := if o ≤ t ∧ t < o + j then F t - x * gx ys (t - o) else F t
theorem tkf_zero (F : Nat → Int) (x : Int) (ys : List Int) (o t : Nat) : tkf F x ys o 0 t = F t := by rw [tkf, if_neg (by omega)]
theorem tkf_none (F : Nat → Int) (ys : List Int) (o j t : Nat) : tkf F 0 ys o j t = F t := by
  rw [tkf]
  split <;> simp
theorem tkf_same (F : Nat → Int) (x : Int) (ys : List Int) (o j : Nat) : tkf F x ys o (j + 1) (o + j) = tkf F x ys o j (o + j) - x * gx ys j := by
  rw [tkf, tkf, if_pos (by omega), if_neg (by omega), Nat.add_sub_cancel_left]
theorem tkf_other (F : Nat → Int) (x : Int) (ys : List Int) (o j t : Nat) (h : t ≠ o + j) : tkf F x ys o (j + 1) t = tkf F x ys o j t := by
  rw [tkf, tkf]
  by_cases h1 : o ≤ t ∧ t < o + j
  · rw [if_pos (by omega), if_pos h1]
  · rw [if_neg (by omega), if_neg h1]
theorem EV.le {w : World} {K L : Nat} {z : Int} {e : Ent} (h : EV w K z e) (hk : K ≤ L) : EV w L z e := by
  obtain ⟨xs, h1, h2, h3⟩ := h
  exact ⟨xs, h1, h2, Nat.le_trans h3 hk⟩
theorem grown2c {w v3 : World} {g o : Nat} {u v : Value} (h : w.grownBy v3 (some g)) : w.grownBy ((v3.setCell ⟨g, o, none⟩ u).setCell ⟨g, o + 1, none⟩ v) (some g) := grownBy_setCell (grownBy_setCell h _ _) _ _
theorem take_step {w wr v2 v3 : World} {g g2 o r j M M' K L : Nat} {us us' : List Ent} {F : Nat → Int} {q : Option Addr} {m mc : Nat} {fs : List Ent} {ys : List Int} {x : Int} {e e2 : Ent} (hT : TR wr g g2 (o + r) M us' (tkf F x ys o j)) (hP : PA wr L q m mc fs ys) (hX : Bx wr w.heap.size (.bool e.s) (.slice e.p e.n e.c)) (hG : w.grownBy wr (some g)) (hv : EV wr K x e) (hxo : 0 < e.n → Off g e.p) (hq : Off g q) (hqe : ∀ j, j < m → 0 < (ge fs j).n → Off g (ge fs j).p) (hgw : g < w.heap.size) (hg2 : g2 < w.heap.size) (hj : j < r) (hul : us'.length = us.length) (hM : M ≤ 200)
    (hbd : ∀ t, o ≤ t → t < o + r → ((F t - x * gx ys (t - o)).natAbs : Int) < pw M) (hV2 : Below wr.heap.size wr v2) (hb3 : Below v2.heap.size v2 v3) (hN : NV v2.heap.size v3 M' (tkf F x ys o j (o + j) - x * gx ys j) e2) :
    ∃ us'', us''.length = us.length ∧ TR ((v3.setCell ⟨g, (o + j) * 2, none⟩ (.bool e2.s)).setCell ⟨g, (o + j) * 2 + 1, none⟩ (.slice e2.p e2.n e2.c)) g g2 (o + r) M us'' (tkf F x ys o (j + 1)) ∧ PA ((v3.setCell ⟨g, (o + j) * 2, none⟩ (.bool e2.s)).setCell ⟨g, (o + j) * 2 + 1, none⟩ (.slice e2.p e2.n e2.c)) L q m mc fs ys ∧ EV ((v3.setCell ⟨g, (o + j) * 2, none⟩ (.bool e2.s)).setCell ⟨g, (o + j) * 2 + 1, none⟩ (.slice e2.p e2.n e2.c)) K x e ∧ Bx ((v3.setCell ⟨g, (o + j) * 2, none⟩ (.bool e2.s)).setCell ⟨g, (o + j) * 2 + 1, none⟩ (.slice e2.p e2.n e2.c)) w.heap.size (.bool e.s) (.slice e.p e.n e.c) ∧ w.grownBy ((v3.setCell ⟨g, (o + j) * 2, none⟩ (.bool e2.s)).setCell ⟨g, (o + j) * 2 + 1, none⟩ (.slice e2.p e2.n e2.c)) (some g) := by
  have hb := bnext' hV2 hb3
  rw [← tkf_same] at hN
  have hz : ((tkf F x ys o (j + 1) (o + j)).natAbs : Int) < pw M := by
    have := hbd (o + j) (by omega) (by omega)
    rw [tkf, if_pos (by omega)]
    exact this
  have hN' := hN.le hz
  have hs := hV2.size
  have hlt := hT.row.lt
  have hwl := block_lt_of_cell hX.c0
  have hoff : 0 < e2.n → Off g e2.p ∧ Off g2 e2.p := fun h0 => by
    obtain ⟨xs, k1, -⟩ := hN
    exact ⟨off_from k1.fr (by omega), off_from k1.fr (by simp at hwl; omega)⟩
  refine ⟨us'.set (o + j) e2, by simpa using hul, ?_, (hP.below hb).gset (fun _ => hq) hqe, (hv.below hb).set2 hxo, Bx_any (hX.later hb) (by omega), grown2c (grownBy_trans hG (grownBy_below hb _))⟩
  exact (hT.below hb).set (o + j) e2 (by omega) (hN'.ev (by omega)) hoff (fun s _ hne => tkf_other F x ys o j s hne)
set_option maxHeartbeats 4000000 in
set_option maxRecDepth 100000 in
/-- upoly.takeTimes. -/
theorem utake_any {w : World} {g g2 o r rc M K L : Nat} {us : List Ent} {F : Nat → Int} {q : Option Addr} {m mc : Nat} {fs : List Ent} {ys : List Int} {x : Int} {e : Ent} (h : TR w g g2 (o + r) M us F) (hg2 : g2 < w.heap.size) (k : PA w L q m mc fs ys) (hq : Off g q) (hqe : ∀ j, j < m → 0 < (ge fs j).n → Off g (ge fs j).p) (hx : EV w K x e) (hxo : 0 < e.n → Off g e.p) (hrm : r ≤ m) (hm : m ≤ 1000) (hr : r ≤ rc) (hrc : rc ≤ 9223372036854775807) (hK : K < 80) (hL : L < 80) (hM : M ≤ 200) (ho : o ≤ 100000)
    (hbd : ∀ t, o ≤ t → t < o + r → ((F t - x * gx ys (t - o)).natAbs : Int) < pw M) :
    Calls Tryz.prog 97 #[.slice (some ⟨g, o * 2, none⟩) r rc, .slice q m mc, .agg #[.bool e.s, .slice e.p e.n e.c]] w fun r' w' => ∃ us', r' = .returned (.tuple #[]) ∧ us'.length = us.length ∧ TR w' g g2 (o + r) M us' (tkf F x ys o r) ∧ w.grownBy w' (some g) := by
  have hfl := k.el
  have hyl := k.zl
  go_enter Tryz.func97, Tryz.ntmps97
  go_wp2_with fail
  have hal := bel_al (o := .cells #[.bool e.s, .slice e.p e.n e.c] 29) (Below.refl w.heap.size w)
  have hX1 : Bx (w.alloc (.cells #[.bool e.s, .slice e.p e.n e.c] 29)) w.heap.size (.bool e.s) (.slice e.p e.n e.c) := Bx.new _ _ _ rfl
  have hgw : g < w.heap.size := h.row.lt
  have h1 := h.below hal
  have k1 := k.below hal
  have hx1 := hx.below hal
  generalize w.alloc (.cells #[.bool e.s, .slice e.p e.n e.c] 29) = W1 at *
  refine (isZero_any hx1).mono ?_
  rintro r' v1 ⟨rfl, hb1⟩
  have hX2 := hX1.later hb1
  have hx2 := hx1.below hb1
  have h2 := h1.below hb1
  have k2 := k1.below hb1
  have hB2 := bnext' hal hb1
  clear hX1 hx1 h1 k1 hal hb1 h k hx
  have hcs : Hid (x = 0 ∨ ¬ x = 0) := Classical.em _
  rcases hcs.out with hz | hz
  · rw [decide_eq_true hz]
    have HZ : Hid (x = 0) := hz
    have HI : Hid (TR v1 g g2 (o + r) M us F ∧ Below w.heap.size w v1) := ⟨h2, hB2⟩
    clear hz hcs h2 k2 hx2 hX2 hB2 hbd hqe
    go_wp2
    (try simp only [Exit.inBlock, Exit.then])
    refine bodyPost_ret (results_none rfl _ _ _) rfl ?_
    refine ⟨us, rfl, rfl, ⟨HI.out.1.row, HI.out.1.len, fun t ht => ?_⟩, grownBy_below HI.out.2 _⟩
    rw [HZ.out, tkf_none]
    exact HI.out.1.ev t ht
  · rw [decide_eq_false hz]
    clear hz hcs
    have HQ : Hid (∀ j, j < m → 0 < (ge fs j).n → Off g (ge fs j).p) := hqe
    have HBD := (show Hid _ from hbd)
    clear hqe hbd
    have HA : Hid (PA v1 L q m mc fs ys ∧ TR v1 g g2 (o + r) M us F ∧ EV v1 K x e ∧ Bx v1 w.heap.size (.bool e.s) (.slice e.p e.n e.c) ∧ Below w.heap.size w v1) := ⟨k2, h2, hx2, hX2, hB2⟩
    clear k2 h2 hx2 hX2 hB2
    go_wp2_with fail
    go_loopw [6, 11] (fun jv kv wr => ∃ j : Nat, j ≤ r ∧ kv = .int .i64 j ∧ Hid (∃ us', us'.length = us.length ∧ TR wr g g2 (o + r) M us' (tkf F x ys o j) ∧ PA wr L q m mc fs ys ∧ EV wr K x e ∧ Bx wr w.heap.size (.bool e.s) (.slice e.p e.n e.c) ∧ w.grownBy wr (some g))) (fun _ kv _ => r - (intOf kv).toNat)
    case atStart => exact ⟨0, Nat.zero_le _, by go_num, us, rfl, ⟨HA.out.2.1.row, HA.out.2.1.len, fun t ht => by rw [tkf_zero]; exact HA.out.2.1.ev t ht⟩, HA.out.1, HA.out.2.2.1, HA.out.2.2.2.1, grownBy_below HA.out.2.2.2.2 _⟩
    case round =>
      clear HA
      obtain ⟨j, hj, rfl, HJ⟩ := hrel
      rcases Nat.lt_or_ge j r with hlt | hge
      · obtain ⟨us', hul, hT, hP, hv, hX, hG⟩ := HJ.out
        obtain ⟨c, s, hq', hd⟩ := hP.pl (by omega)
        subst hq'
        obtain ⟨d0, d1⟩ := hd j (by omega)
        have hu := hP.ev j (by omega)
        have hTl := hT.len
        have eo : o * 2 + j * 2 = (o + j) * 2 := by omega
        obtain ⟨x0, x1⟩ := hT.row.cell (o + j) (by omega)
        obtain ⟨a0, a1, -, -⟩ := id hX
        have HE : Hid (TR wr g g2 (o + r) M us' (tkf F x ys o j) ∧ PA wr L (some ⟨c, s, none⟩) m mc fs ys ∧ Bx wr w.heap.size (.bool e.s) (.slice e.p e.n e.c) ∧ w.grownBy wr (some g)) := ⟨hT, hP, hX, hG⟩
        have hjm : (j : Int) < (m : Int) := by omega
        have hjr : (j : Int) < (r : Int) := by omega
        clear hT hP hX hG HJ hd
        go_upto_region 5 with fail
        go_region_with (first
          | (go_at_call 63; refine (Mul_ev hv.drew hu.drew hK).mono ?_; rintro r' v2 ⟨e1, rfl, hN1, hb2⟩; have hV2 := undrew hb2; have hT2 := HE.out.1.below hV2; obtain ⟨y0, y1⟩ := hT2.row.cell (o + j) (by omega))
          | (go_at_call 75; refine (Sub_ev (hT2.ev (o + j) (by omega)).1 (hN1.ev (by omega))).mono ?_; rintro r' v3 ⟨e2, rfl, hN2, hb3⟩; have hT3 := hT2.below hb3; obtain ⟨z0, z1⟩ := hT3.row.cell (o + j) (by omega); have f0 := hT3.row.frozen ((o + j) * 2); have f1 := hT3.row.frozen ((o + j) * 2 + 1)))
        all_goals
          have hstep := take_step (us := us) HE.out.1 HE.out.2.1 HE.out.2.2.1 HE.out.2.2.2 hv hxo hq HQ.out hgw hg2 hlt hul hM HBD.out hV2 hb3 hN2
          have HST := (show Hid _ from hstep)
          clear hstep x0 x1 a0 a1 d0 d1 y0 y1 HE hN1 hN2 hT2 hT3 hv hu z0 z1 f0 f1
          go_wp2
          refine ⟨⟨j + 1, by omega, by go_num, HST.out⟩, by simp [intOf]; omega⟩
      · obtain rfl : j = r := by omega
        clear hge
        go_wp2
        go_end0
        obtain ⟨us', hul, hT, hP, hv, hX, hG⟩ := HJ.out
        exact ⟨us', rfl, hul, hT, hG⟩
end Go.Proofs.YtakfimhpnpapdaaGreatDoor
