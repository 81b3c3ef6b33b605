/-
  limbs.Gcd of numbers of fewer than 150 limbs.
-/
import Derived.Test.YtakfimhpnpapdaaGreatDoorGf
import Derived.Test.YtakfimhpnpapdaaGreatDoorNbUj
namespace Go.Proofs.YtakfimhpnpapdaaGreatDoor
open Go.RowKit
set_option linter.unusedVariables false
set_option linter.unusedSimpArgs false

theorem gcd_ival (s t : Bool) (xs ys : List Int) : Int.gcd (ival s xs) (ival t ys) = Int.gcd (val xs) (val ys) := by
  cases s <;> cases t <;> simp [ival, Int.gcd_neg, Int.neg_gcd]

set_option maxRecDepth 100000 in
set_option maxHeartbeats 2000000 in
/-- limbs.Gcd. -/
theorem Gcd_gen (s t : Bool) (p q : Option Addr) (n nc m mc : Nat) (xs ys : List Int) (w : World) (hA : AI w p n nc xs) (hB : AI w q m mc ys) (K : Nat) (hK2 : 2 ≤ K) (hK : K ≤ 150) (hn : n < K) (hm : m < K) :
    Calls Tryz.prog 54 #[.agg #[.bool s, .slice p n nc], .agg #[.bool t, .slice q m mc]] w fun e w' => ∃ s' p' n' zs, e = .returned (.agg #[.bool s', .slice p' n' n']) ∧ NI w.heap.size w' s' p' n' zs (Int.gcd (ival s xs) (ival t ys)) ∧ n' ≤ K ∧ Below w.heap.size w w' := by
  have tx := tlen_le xs
  have ty := tlen_le ys
  have lx := hA.len
  have ly := hB.len
  rw [gcd_ival]
  obtain ⟨g, hg⟩ : ∃ g, g = Int.gcd (val xs) (val ys) := ⟨_, rfl⟩
  have HG : Hid (g = Int.gcd (val xs) (val ys)) := hg
  rw [← hg]
  clear hg
  go_enter Tryz.func54, Tryz.ntmps54
  go_wp2
  have hX := boxes3' w (.bool s) (.slice p n nc) (.bool t) (.slice q m mc) (.bool false) (.slice none 0 0) 29 29 29
  generalize ((w.alloc (Obj.cells #[Value.bool s, Value.slice p n nc] 29)).alloc (Obj.cells #[Value.bool t, Value.slice q m mc] 29)).alloc (Obj.cells #[Value.bool false, Value.slice none 0 0] 29) = W at *
  have hA' := hA.below hX.below
  have hB' := hB.below hX.below
  have k1 := hX.ca1
  have k3 := hX.cb1
  go_region_held3 (fun w' => w'.cell? ⟨w.heap.size, 1, none⟩ = some (.slice p n nc) ∧ w'.cell? ⟨w.heap.size + 1, 1, none⟩ = some (.slice q m mc)) (first | (simp [go_sem, *]; done) | exact keepc2 (by assumption) (by assumption))
    (first
      | (go_at_call_of 76 (Value.slice p n nc); refine (trim_any p n nc xs _ hA.len hA.cap hA.bnd ?_).mono ?_; exact hA'.rd.drew; rintro e w' ⟨rfl, rfl⟩)
      | (go_at_call_of 76 (Value.slice q m mc); refine (trim_any q m mc ys _ hB.len hB.cap hB.bnd ?_).mono ?_; exact hB'.rd.drew; rintro e w' ⟨rfl, rfl⟩)
      | (go_at_call 93; refine (divisor_any p q (tlen xs) nc (tlen ys) mc (tr xs) (tr ys) _ hA'.tr.drew hB'.tr.drew K hK2 hK (by omega) (by omega) (tlen_tr xs) (tlen_tr ys)).mono ?_; rintro e w1 ⟨qz, nz, ncz, zs, rfl, z1, z2, z3, z4, z5, z6, z7, z8, z9, hb1⟩)
      | (go_at_call 77; refine (number_any false qz nz ncz zs _ z3 z4 z5 ?_).mono ?_; exact z1; rintro e w2 ⟨rfl, hb2⟩; obtain ⟨c0, c1, f0, f1⟩ := resbox ((undrew hb1).trans (hb2.mono (undrew hb1).size)) hX.cr0 hX.cr1 hX.fr0 hX.fr1))
  go_wp2
  have hsz := hX.size
  have htl := tlen_le zs
  have hv : ival false zs = g := by
    rw [ival, if_neg (by decide), z7, HG.out, val_tr, val_tr]
  have hbb := undrew hb1
  have hs1 := hbb.size
  have hN := ((ni_number (B := W.heap.size) false z1 z2 z8 z9).below hb2)
  rw [hv] at hN
  refine bodyPost_ret (v := .agg #[.bool (nsg false zs), .slice (nad qz zs) (tlen zs) (tlen zs)]) (by simp [results, Tryz.results54, go_sem, c0, c1]) rfl ⟨_, _, _, tr zs, rfl, ?_, by omega, ?_⟩
  · exact ((hN.set (by simp; omega) _).set (by simp; omega) _).mono (by omega)
  · exact ((hX.below.trans (bnext' hbb hb2 |>.mono (by omega))).setCell (by simp; omega) _).setCell (by simp; omega) _
/-- limbs.Gcd of numbers of fewer than 80 limbs. -/
theorem Gcd_any (s t : Bool) (p q : Option Addr) (n nc m mc : Nat) (xs ys : List Int) (w : World) (hA : AI w p n nc xs) (hB : AI w q m mc ys) (hn : n < 80) (hm : m < 80) :
    Calls Tryz.prog 54 #[.agg #[.bool s, .slice p n nc], .agg #[.bool t, .slice q m mc]] w fun e w' => ∃ s' p' n' zs, e = .returned (.agg #[.bool s', .slice p' n' n']) ∧ NI w.heap.size w' s' p' n' zs (Int.gcd (ival s xs) (ival t ys)) ∧ n' ≤ 80 ∧ Below w.heap.size w w' :=
  Gcd_gen s t p q n nc m mc xs ys w hA hB 80 (by decide) (by decide) hn hm
end Go.Proofs.YtakfimhpnpapdaaGreatDoor
/-
  upoly.Content.
-/
namespace Go.Proofs.YtakfimhpnpapdaaGreatDoor
open Go.RowKit
set_option linter.unusedVariables false
set_option linter.unusedSimpArgs false

/-- The greatest common divisor of a list. -/
def gcdl (zs : List Int) : Nat := zs.foldl (fun g z => Int.gcd g z) 0
theorem gcdl_take (zs : List Int) (j : Nat) (h : j < zs.length) : gcdl (zs.take (j + 1)) = Int.gcd (gcdl (zs.take j)) (gx zs j) := by
  rw [gx_mem zs j h, List.take_succ_eq_append_getElem h, gcdl, List.foldl_append]
  rfl
theorem fold_one : ∀ zs : List Int, zs.foldl (fun (g : Nat) z => Int.gcd g z) 1 = 1
  | [] => rfl
  | z :: r => by
    have e : Int.gcd ((1 : Nat) : Int) z = 1 := by simp [Int.gcd]
    rw [List.foldl_cons, e]
    exact fold_one r
theorem gcdl_one (zs : List Int) (j : Nat) (h : gcdl (zs.take j) = 1) : gcdl zs = 1 := by
  have e : gcdl zs = (zs.drop j).foldl (fun (g : Nat) z => Int.gcd g z) (gcdl (zs.take j)) := by
    rw [gcdl, gcdl, ← List.foldl_append, List.take_append_drop]
  rw [e, h]
  exact fold_one _
theorem Gcd_ev {w : World} {K L : Nat} {x y : Int} {e f : Ent} (h : EV w K x e) (k : EV w L y f) (hK : K < 150) (hL : L < 150) : Calls Tryz.prog 54 #[.agg #[.bool e.s, .slice e.p e.n e.c], .agg #[.bool f.s, .slice f.p f.n f.c]] w fun r w' => ∃ u : Ent, r = .returned (.agg #[.bool u.s, .slice u.p u.n u.c]) ∧ NV w.heap.size w' 150 (Int.gcd x y) u ∧ Below w.heap.size w w' := by
  obtain ⟨xs, h1, rfl, h3⟩ := h
  obtain ⟨ys, k1, rfl, k3⟩ := k
  refine (Gcd_gen e.s f.s e.p f.p e.n e.c f.n f.c xs ys w h1 k1 150 (by decide) (by decide) (by omega) (by omega)).mono ?_
  rintro r w' ⟨s', p', n', zs, g1, g2, g3, g4⟩
  exact ⟨⟨s', p', n', n'⟩, g1, ⟨zs, g2, rfl, g3⟩, g4⟩
theorem zb_one {g : Nat} : zb (g : Int) = 1 ↔ g = 1 := by
  constructor
  · intro h
    have hI := zb_ib (g : Int)
    rw [h] at hI
    obtain ⟨a, b, c⟩ := hI
    simp at b c
    omega
  · intro h; subst h; decide
theorem NV.fit {B : Nat} {w : World} {K M : Nat} {z : Int} {e : Ent} (h : NV B w K z e) (hz : (z.natAbs : Int) < pw M) : NV B w M z e := by
  obtain ⟨xs, h1, h2, h3⟩ := h
  exact ⟨xs, h1, h2, h1.le hz⟩
theorem PA.gbd' {w : World} {K : Nat} {p : Option Addr} {n nc : Nat} {es : List Ent} {zs : List Int} (h : PA w K p n nc es zs) : ∀ i, ((gx zs i).natAbs : Int) < pw K := fun i => by
  rcases Nat.lt_or_ge i n with hlt | hge
  · obtain ⟨xs, h1, h2, h3⟩ := h.ev i hlt
    have h4 := h1.lt (ge es i).s
    rw [h2] at h4
    have := pw_mono h3
    omega
  · rw [gx_past zs n (by rw [h.zl]; exact Nat.le_refl _) i hge]
    exact pw_pos K
theorem gcd_bd {x y P : Int} (hx : (x.natAbs : Int) < P) (hy : (y.natAbs : Int) < P) : ((((Int.gcd x y : Nat) : Int)).natAbs : Int) < P := by
  rw [Int.natAbs_natCast]
  rcases Nat.eq_zero_or_pos y.natAbs with h0 | h0
  · have : Int.gcd x y = x.natAbs := by
      have e : y = 0 := by omega
      rw [e, Int.gcd_zero_right]
    omega
  · have h1 : Int.gcd x y ≤ y.natAbs := Nat.le_of_dvd h0 (Nat.gcd_dvd_right _ _)
    omega
theorem content_end {w w2 : World} {K : Nat} {z : Int} {u : Ent} (h : NV (w.heap.size + 2) w2 K z u) (hs : w.heap.size < w.heap.size + 2) : NV w.heap.size ((w2.setCell ⟨w.heap.size, 0, none⟩ (.bool u.s)).setCell ⟨w.heap.size, 1, none⟩ (.slice u.p u.n u.c)) K z u := (h.set2 (o := 0) hs _ _).mono (by omega)
set_option maxHeartbeats 4000000 in
set_option maxRecDepth 100000 in
/-- upoly.Content. -/
theorem Content_any {w : World} {K : Nat} {p : Option Addr} {n nc : Nat} {es : List Ent} {zs : List Int} (h : PA w K p n nc es zs) (hn : n ≤ 1000000) (hK : K < 150) (hK1 : 1 ≤ K) :
    Calls Tryz.prog 79 #[.slice p n nc] w fun r w' => ∃ u : Ent, r = .returned (.agg #[.bool u.s, .slice u.p u.n u.c]) ∧ NV w.heap.size w' K (gcdl zs) u ∧ Below w.heap.size w w' := by
  have hel := h.el
  have hzl := h.zl
  go_enter Tryz.func79, Tryz.ntmps79
  go_wp2_with fail
  have hR0 : Bx ((w.alloc (.cells #[.bool false, .slice none 0 0] 29)).alloc (.cells #[.bool false, .slice none 0 0] 29)) w.heap.size (.bool false) (.slice none 0 0) := (Bx.new _ _ _ rfl).alloc _
  have hG0 : Bx ((w.alloc (.cells #[.bool false, .slice none 0 0] 29)).alloc (.cells #[.bool false, .slice none 0 0] 29)) (w.heap.size + 1) (.bool false) (.slice none 0 0) := Bx.new _ _ _ (by simp)
  have hW0 : Below w.heap.size w ((w.alloc (.cells #[.bool false, .slice none 0 0] 29)).alloc (.cells #[.bool false, .slice none 0 0] 29)) := ((Below.refl _ _).alloc (Nat.le_refl _) _).alloc (by simp) _
  generalize (w.alloc (.cells #[.bool false, .slice none 0 0] 29)).alloc (.cells #[.bool false, .slice none 0 0] 29) = W0 at *
  have HG : Hid (∀ i, ((gx zs i).natAbs : Int) < pw K) := h.gbd'
  go_loopw [5, 8] (fun cv kv wr => ∃ (j : Nat) (u : Ent), j ≤ n ∧ kv = .int .i64 j ∧ Hid (Bx wr w.heap.size (.bool false) (.slice none 0 0) ∧ Bx wr (w.heap.size + 1) (.bool u.s) (.slice u.p u.n u.c) ∧ NV (w.heap.size + 2) wr K (gcdl (zs.take j)) u ∧ Below w.heap.size w wr)) (fun _ kv _ => n - (intOf kv).toNat)
  case atStart => exact ⟨0, ez, Nat.zero_le _, by go_num, hR0, hG0, by rw [List.take_zero]; exact NV.ez _ _ _, hW0⟩
  case round =>
    obtain ⟨j, u, hj, rfl, H⟩ := hrel
    rcases Nat.lt_or_ge j n with hlt | hge
    · obtain ⟨hR, hGx, hN, hB⟩ := H.out
      have hh := h.below hB
      have hv := hh.ev j hlt
      obtain ⟨b, o, hp, hc⟩ := hh.pl (by omega)
      subst hp
      obtain ⟨c0, c1⟩ := hc j (by omega)
      have hsg : w.heap.size + 1 < wr.heap.size := block_lt_of_cell hGx.c0
      have HT : Hid (gcdl (zs.take (j + 1)) = Int.gcd (gcdl (zs.take j)) (gx zs j)) := gcdl_take zs j (by omega)
      have hbd : Hid ((((gcdl (zs.take (j + 1)) : Nat) : Int).natAbs : Int) < pw K) := by
        show _ < _
        rw [HT.out]
        obtain ⟨xs, q1, q2, q3⟩ := hN.ev (by omega)
        have q4 := q1.lt u.s
        rw [q2] at q4
        have := pw_mono q3
        exact gcd_bd (by omega) (HG.out j)
      have hal := bel_al (o := .cells #[.bool (ge es j).s, .slice (ge es j).p (ge es j).n (ge es j).c] 29) (Below.refl wr.heap.size wr)
      have hR1 := hR.later hal
      have hG1 := hGx.later hal
      have hN1 := hN.below hal
      have hv1 := hv.below hal
      have hB1 := bnext hB (Nat.le_refl _) hal
      obtain ⟨g0, g1, -, -⟩ := id hG1
      clear H hh hc hR hGx hN hB hv hal
      go_wp2_with fail
      clear g0 g1 c0 c1
      generalize wr.alloc (.cells #[.bool (ge es j).s, .slice (ge es j).p (ge es j).n (ge es j).c] 29) = W1 at *
      have hsW : w.heap.size + 1 < W1.heap.size := block_lt_of_cell hG1.c0
      have hgc := Gcd_ev (hN1.ev (by omega)) hv1 hK hK
      rw [← HT.out] at hgc
      refine hgc.mono ?_
      rintro r w1 ⟨u1, rfl, hU1, hb1⟩
      have hR2 := hR1.later hb1
      have hG2 := hG1.later hb1
      have hB2 := bnext hB1 (Nat.le_refl _) hb1
      have hU2 := (hU1.fit hbd.out).mono (show w.heap.size + 2 ≤ W1.heap.size by omega)
      have HST : Hid (Bx ((w1.setCell ⟨w.heap.size + 1, 0, none⟩ (.bool u1.s)).setCell ⟨w.heap.size + 1, 1, none⟩ (.slice u1.p u1.n u1.c)) w.heap.size (.bool false) (.slice none 0 0) ∧ Bx ((w1.setCell ⟨w.heap.size + 1, 0, none⟩ (.bool u1.s)).setCell ⟨w.heap.size + 1, 1, none⟩ (.slice u1.p u1.n u1.c)) (w.heap.size + 1) (.bool u1.s) (.slice u1.p u1.n u1.c) ∧ NV (w.heap.size + 2) ((w1.setCell ⟨w.heap.size + 1, 0, none⟩ (.bool u1.s)).setCell ⟨w.heap.size + 1, 1, none⟩ (.slice u1.p u1.n u1.c)) K (gcdl (zs.take (j + 1))) u1 ∧ Below w.heap.size w ((w1.setCell ⟨w.heap.size + 1, 0, none⟩ (.bool u1.s)).setCell ⟨w.heap.size + 1, 1, none⟩ (.slice u1.p u1.n u1.c))) := ⟨Bx_oth hR2 (by omega), Bx_set hG2, hU2.set2 (o := 0) (by omega) _ _, bset2 hB2 (by omega) _ _⟩
      obtain ⟨g0, g1, f0, f1⟩ := id hG2
      have k0 := HST.out.2.1.c0
      have k1 := HST.out.2.1.c1
      clear hgc hR1 hG1 hN1 hv1 hB1 hU1 hb1 hR2 hG2 hB2 hU2
      go_wp2_with fail
      clear g0 g1 f0 f1 k0 k1
      generalize (w1.setCell ⟨w.heap.size + 1, 0, none⟩ (.bool u1.s)).setCell ⟨w.heap.size + 1, 1, none⟩ (.slice u1.p u1.n u1.c) = W2 at *
      refine (Bits_ev (HST.out.2.2.1.ev (by omega))).mono ?_
      rintro r w2 ⟨rfl, hb2⟩
      have H2 : Hid (Bx w2 w.heap.size (.bool false) (.slice none 0 0) ∧ Bx w2 (w.heap.size + 1) (.bool u1.s) (.slice u1.p u1.n u1.c) ∧ NV (w.heap.size + 2) w2 K (gcdl (zs.take (j + 1))) u1 ∧ Below w.heap.size w w2) := by
        obtain ⟨a1, a2, a3, a4⟩ := HST.out
        exact ⟨a1.later hb2, a2.later hb2, a3.below hb2, bnext a4 (Nat.le_refl _) hb2⟩
      clear HST hb2
      have hcs : Hid (gcdl (zs.take (j + 1)) = 1 ∨ ¬ gcdl (zs.take (j + 1)) = 1) := Classical.em _
      rcases hcs.out with hz | hz
      · have hzb : (zb ((gcdl (zs.take (j + 1)) : Nat) : Int) : Int) = 1 := by rw [zb_one.2 hz]; rfl
        have HZ : Hid (gcdl zs = 1 ∧ gcdl (zs.take (j + 1)) = 1) := ⟨gcdl_one zs (j + 1) hz, hz⟩
        clear hz hcs
        obtain ⟨q1, q2, q3, q4⟩ := H2.out
        have hsz : w.heap.size < w.heap.size + 2 := by omega
        have HN : Hid (NV (w.heap.size + 2) w2 K (gcdl zs) u1) := by
          show NV _ _ _ _ _
          rw [HZ.out.1, ← HZ.out.2]
          exact q3
        have HB : Hid (Below w.heap.size w w2) := q4
        obtain ⟨r0, r1, f0, f1⟩ := q1
        obtain ⟨g0, g1, -, -⟩ := q2
        clear q3 q4 H2
        go_wp2
        refine bodyPost_ret (v := .agg #[.bool u1.s, .slice u1.p u1.n u1.c]) (by simp [results, Tryz.results79, go_sem, r0, r1]) rfl ⟨u1, rfl, ?_, ?_⟩
        · exact content_end HN.out hsz
        · exact bset2 HB.out (Nat.le_refl _) _ _
      · have hzb : ((zb ((gcdl (zs.take (j + 1)) : Nat) : Int) : Int) == 1) = false := by
          rw [beq_eq_false_iff_ne]
          intro e
          exact hz (zb_one.1 (by omega))
        clear hz hcs
        go_wp2
        refine ⟨⟨j + 1, u1, by omega, by go_num, H2.out⟩, by simp [intOf]; omega⟩
    · obtain rfl : j = n := by omega
      obtain ⟨q1, q2, q3, q4⟩ := H.out
      rw [List.take_of_length_le (by omega)] at q3
      have hsz : w.heap.size < w.heap.size + 2 := by omega
      have HN : Hid (NV (w.heap.size + 2) wr K (gcdl zs) u) := q3
      have HB : Hid (Below w.heap.size w wr) := q4
      obtain ⟨r0, r1, f0, f1⟩ := q1
      obtain ⟨g0, g1, -, -⟩ := q2
      clear q3 q4 H hge
      go_wp2
      refine bodyPost_ret (v := .agg #[.bool u.s, .slice u.p u.n u.c]) (by simp [results, Tryz.results79, go_sem, r0, r1]) rfl ⟨u, rfl, ?_, ?_⟩
      · exact content_end HN.out hsz
      · exact bset2 HB.out (Nat.le_refl _) _ _
end Go.Proofs.YtakfimhpnpapdaaGreatDoor
