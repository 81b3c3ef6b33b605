/-
  upoly.Mul of small polynomials.
-/
import Derived.Test.YtakfimhpnpapdaaGreatDoorUwUm
import Derived.Test.YtakfimhpnpapdaaGreatDoorUsHaHb
import Derived.Test.YtakfimhpnpapdaaGreatDoorUeUfUg
namespace Go.Proofs.YtakfimhpnpapdaaGreatDoor
open Go.RowKit
set_option linter.unusedVariables false
set_option linter.unusedSimpArgs false

theorem PnP.from {zs : List Int} {K : Nat} {w w' : World} {e : Ending} {w'' : World} (h : PnP zs K w' e w'') (hb : Below w.heap.size w w') : PnP zs K w e w'' := by
  obtain ⟨p, n, es, h1, h2, h3⟩ := h
  exact ⟨p, n, es, h1, h2.mono hb.size, bnext' hb h3⟩
set_option maxHeartbeats 2000000 in
set_option maxRecDepth 100000 in
/-- upoly.Mul, where rows cost less. -/
theorem uMul_rows {w : World} {K L : Nat} {p q : Option Addr} {n nc m mc : Nat} {es fs : List Ent} {zs ys : List Int} (h : PA w K p n nc es zs) (k : PA w L q m mc fs ys) (hn : n ≤ 80) (hm : m ≤ 80) (hn1 : 1 ≤ tlen zs) (hm1 : 1 ≤ tlen ys) (hK : K < 80) (hL : L < 80) (hd : wd (tr zs) (tr ys) ≤ 80) (hk : wd (tr zs) (tr ys) * min (tlen zs) (tlen ys) ≤ 80)
    (hc : sl (tr zs) * sl (tr ys) + 80 * cnt (tr zs) * cnt (tr ys) ≤ wd (tr zs) (tr ys) * tlen zs * wd (tr zs) (tr ys) * tlen ys + 160 * (tlen zs + tlen ys)) :
    Calls Tryz.prog 8 #[.slice p n nc, .slice q m mc] w (PnP (mulz (tr zs) (tr ys)) (K + L + 1) w) := by
  have HC := (show Hid _ from hc)
  have HD := (show Hid _ from hd)
  have HK := (show Hid _ from hk)
  have hzl := h.zl
  have hyl := k.zl
  have htz := tlen_le zs
  have hty := tlen_le ys
  clear hc hd hk
  go_enter Tryz.func8, Tryz.ntmps8
  go_wp2_with fail
  refine (read_any K p n nc es zs _ h (by omega) (by omega)).mono ?_
  rintro e w1 ⟨p1, n1, es1, rfl, h1, hb1⟩
  go_wp2_with fail
  refine (read_any L q m mc fs ys _ (k.below hb1) (by omega) (by omega)).mono ?_
  rintro e w2 ⟨q1, m1, fs1, rfl, k1, hb2⟩
  have hn' := h1.zl
  have hm' := k1.zl
  rw [length_tr] at hn' hm'
  subst hn' hm'
  go_wp2_with fail
  refine (product_rows (h1.below hb2) k1 (by omega) (by omega) hn1 hm1 hK hL HD.out HK.out HC.out).mono ?_
  rintro e w3 ⟨p3, n3, es3, rfl, h3, hb3⟩
  go_wp2
  go_ret
  exact PnP.from ⟨p3, n3, es3, rfl, h3, hb3⟩ (bnext' hb1 hb2)
end Go.Proofs.YtakfimhpnpapdaaGreatDoor
/-
  upoly.Gcd at 1 + 4x + 4x^2 and 1 + 2x.
-/
namespace Go.Proofs.YtakfimhpnpapdaaGreatDoor
open Go.RowKit
set_option linter.unusedVariables false
set_option linter.unusedSimpArgs false

set_option maxHeartbeats 4000000 in
set_option maxRecDepth 100000 in
/-- upoly.Gcd at the two polynomials. -/
theorem uGcd_start {w : World} {K L : Nat} {p q : Option Addr} {n nc m mc : Nat} {es fs : List Ent} (h : PA w K p n nc es [1, 4, 4]) (hb : PA w L q m mc fs [1, 2]) (hK : K < 80) (hL : L < 50) (hK1 : 1 ≤ K) (hL1 : 1 ≤ L) :
    Calls Tryz.prog 25 #[.slice p n nc, .slice q m mc] w (PnP [1, 2] (1 + L) w) := by
  have hn := h.zl
  have hm := hb.zl
  have hn9 : n ≤ 9 := by rw [← hn]; decide
  have hm9 : m ≤ 9 := by rw [← hm]; decide
  have HN : Hid (([1, 4, 4] : List Int).length = n ∧ ([1, 2] : List Int).length = m) := ⟨hn, hm⟩
  clear hn hm
  have ta : tr [1, 4, 4] = [1, 4, 4] := by decide
  have tb : tr [1, 2] = [1, 2] := by decide
  have hra := read_any K p n nc es _ w h (by omega) (by omega)
  rw [ta] at hra
  go_enter Tryz.func25, Tryz.ntmps25
  go_wp2_with fail
  refine hra.mono ?_
  rintro r w1 ⟨p1, n1, es1, rfl, h1, hb1⟩
  have hn1 := h1.zl
  have l1 : 1 ≤ n1 := by rw [← hn1]; decide
  have l2 : n1 ≤ 9 := by rw [← hn1]; decide
  clear hra hn1
  go_wp2_with fail
  refine (parts_any h1 (by omega) l1 (by omega) hK1).mono ?_
  rintro r w2 ⟨u2, p2, n2, es2, rfl, hu2, h2, hb2⟩
  have e1 : gcdl [1, 4, 4] = 1 := by decide
  have e2 : prml [1, 4, 4] = [1, 4, 4] := by decide
  rw [e1] at hu2
  rw [e2] at h2
  have hal := bel_al (o := .cells #[.bool u2.s, .slice u2.p u2.n u2.c] 29) (Below.refl w2.heap.size w2)
  have hX2 : Bx (w2.alloc (.cells #[.bool u2.s, .slice u2.p u2.n u2.c] 29)) w2.heap.size (.bool u2.s) (.slice u2.p u2.n u2.c) := Bx.new _ _ _ rfl
  have hB2 := bnext' (bnext' hb1 hb2) hal
  have hu3 := hu2.below hal
  have h3 := h2.below hal
  have hrb := read_any L q m mc fs _ (w2.alloc (.cells #[.bool u2.s, .slice u2.p u2.n u2.c] 29)) (hb.below hB2) (by omega) (by omega)
  rw [tb] at hrb
  clear h1 hb1 hb2 hal hu2 h2 e1 e2
  go_wp2_with fail
  generalize w2.alloc (.cells #[.bool u2.s, .slice u2.p u2.n u2.c] 29) = W2 at *
  refine hrb.mono ?_
  rintro r w3 ⟨p4, n4, es4, rfl, h4, hb3⟩
  have hn4 := h4.zl
  have l3 : 1 ≤ n4 := by rw [← hn4]; decide
  have l4 : n4 ≤ 9 := by rw [← hn4]; decide
  clear hrb hn4
  go_wp2_with fail
  refine (parts_any h4 (by omega) l3 (by omega) hL1).mono ?_
  rintro r w4 ⟨u5, p5, n5, es5, rfl, hu5, h5, hb4⟩
  have e1 : gcdl [1, 2] = 1 := by decide
  have e2 : prml [1, 2] = [1, 2] := by decide
  rw [e1] at hu5
  rw [e2] at h5
  have hb34 := bnext' hb3 hb4
  have hal := bel_al (o := .cells #[.bool u5.s, .slice u5.p u5.n u5.c] 29) (Below.refl w4.heap.size w4)
  have hX5 : Bx (w4.alloc (.cells #[.bool u5.s, .slice u5.p u5.n u5.c] 29)) w4.heap.size (.bool u5.s) (.slice u5.p u5.n u5.c) := Bx.new _ _ _ rfl
  have hX6 := (hX2.later hb34).later hal
  have hB6 := bnext' (bnext' hB2 hb34) hal
  have hu6 := (hu3.below hb34).below hal
  have hu7 := hu5.below hal
  have h6 := (h3.below hb34).below hal
  have h7 := h5.below hal
  have hn2 : n2 = 3 := by have := h6.zl; rw [← this]; rfl
  have hn5 : n5 = 2 := by have := h7.zl; rw [← this]; rfl
  subst hn2 hn5
  clear h3 hu3 hX2 hB2 h4 hb3 hb4 hb34 hal hu5 h5 e1 e2
  go_wp2_with fail
  generalize w4.alloc (.cells #[.bool u5.s, .slice u5.p u5.n u5.c] 29) = W4 at *
  refine (prim_start h6 h7 hK (by omega)).mono ?_
  rintro r w5 ⟨rfl, hb5⟩
  have hX8 := hX6.later hb5
  have hX9 := hX5.later hb5
  obtain ⟨q0, q1, -, -⟩ := id hX8
  obtain ⟨q2, q3, -, -⟩ := id hX9
  have hv2 := (hu6.below hb5).ev (by omega)
  have hv5 := (hu7.below hb5).ev (by omega)
  have hg := Gcd_ev hv2 hv5 (by omega) (by omega)
  have h8 := h7.below hb5
  have hB8 := bnext' hB6 hb5
  clear hX6 hX5 hu6 hu7 h6 h7 hb5 hB6
  go_wp2_with fail
  refine hg.mono ?_
  rintro r w6 ⟨v6, rfl, hv6, hb6⟩
  have hv7 : NV w5.heap.size w6 1 1 v6 := hv6.fit (by decide)
  have hs := uScale_any ((h8.below hb6).pa (by omega) (by omega)) (hv7.ev (by omega)) (by omega) (by omega) (by omega)
  have e3 : tr ((tr [1, 2]).map ((1 : Int) * ·)) = [1, 2] := by decide
  rw [e3] at hs
  have HB : Hid (Below w.heap.size w w6) := bnext' hB8 hb6
  clear hg q0 q1 q2 q3 hX8 hX9 hv6 h8 hB8 hb6 e3 hv2 hv5
  go_wp2_with fail
  refine hs.mono ?_
  rintro r w7 ⟨p8, n8, es8, rfl, h9, hb7⟩
  clear hs
  go_wp2
  go_ret
  exact PnP.from ⟨p8, n8, es8, rfl, h9, hb7⟩ HB.out
end Go.Proofs.YtakfimhpnpapdaaGreatDoor
/-
  upoly.Eq.
-/
namespace Go.Proofs.YtakfimhpnpapdaaGreatDoor
open Go.RowKit
set_option linter.unusedVariables false
set_option linter.unusedSimpArgs false

theorem Cmp_ev {w : World} {K L : Nat} {x y : Int} {e f : Ent} (h : EV w K x e) (k : EV w L y f) : Calls Tryz.prog 37 #[.agg #[.bool e.s, .slice e.p e.n e.c], .agg #[.bool f.s, .slice f.p f.n f.c]] w fun r w' => r = .returned (.int .i64 (icmp x y)) ∧ Below w.heap.size w w' := by
  obtain ⟨xs, h1, rfl, h3⟩ := h
  obtain ⟨ys, k1, rfl, k3⟩ := k
  exact Cmp_any e.s f.s e.p f.p e.n e.c f.n f.c xs ys w h1 k1
theorem icmp_dec (x y : Int) : (icmp x y == 0) = decide (x = y) := by
  unfold icmp
  rcases Int.lt_trichotomy x y with h | h | h
  · rw [if_pos h]; simp; omega
  · subst h; simp
  · rw [if_neg (by omega), if_pos h]; simp; omega
set_option maxHeartbeats 2000000 in
set_option maxRecDepth 100000 in
theorem eqSame_any {w : World} {K L : Nat} {x y : Int} {e f : Ent} (h : EV w K x e) (k : EV w L y f) : Calls Tryz.prog 36 #[.agg #[.bool e.s, .slice e.p e.n e.c], .agg #[.bool f.s, .slice f.p f.n f.c]] w fun r w' => r = .returned (.bool (decide (x = y))) ∧ Below w.heap.size w w' := by
  have hd : Hid ((icmp x y == 0) = decide (x = y)) := icmp_dec x y
  go_enter Tryz.func36, Tryz.ntmps36
  go_wp2_with fail
  have hW : Below w.heap.size w ((w.alloc (.cells #[.bool e.s, .slice e.p e.n e.c] 29)).alloc (.cells #[.bool f.s, .slice f.p f.n f.c] 29)) := ((Below.refl _ _).alloc (Nat.le_refl _) _).alloc (by simp) _
  generalize (w.alloc (.cells #[.bool e.s, .slice e.p e.n e.c] 29)).alloc (.cells #[.bool f.s, .slice f.p f.n f.c] 29) = W at *
  refine (Cmp_ev (h.below hW) (k.below hW)).mono ?_
  rintro r w1 ⟨rfl, hb1⟩
  go_wp2
  go_ret
  exact ⟨by rw [hd.out]; rfl, bnext' hW hb1⟩
theorem callSame (args : Array Value) (w' : World) : Sem.run Tryz.prog (callFunc 36 args) w' = .ok (.enter 36 args) w' := by
  have h1 : ¬ Tryz.f36.name = "runtime.NumGoroutine" := of_decide_eq_false (by kernel_rfl)
  have h2 : ¬ Tryz.f36.body = none := fun h => by cases h
  simp only [callFunc, Tryz.func36, go_sem]
  simp [h1, h2, go_sem]
set_option maxHeartbeats 2000000 in
set_option maxRecDepth 100000 in
/-- slices.EqualFunc. -/
theorem eqFunc_any {w : World} {K L : Nat} {p q : Option Addr} {n nc m mc : Nat} {es fs : List Ent} {zs ys : List Int} (h : PA w K p n nc es zs) (k : PA w L q m mc fs ys) (hn : n ≤ 1000000) (hm : m ≤ 1000000) :
    Calls Tryz.prog 38 #[.slice p n nc, .slice q m mc, .func (.func 36) #[] #[]] w fun r w' => r = .returned (.bool (decide (zs = ys))) ∧ Below w.heap.size w w' := by
  have hel := h.el
  have hfl := k.el
  have hzl := h.zl
  have hyl := k.zl
  by_cases hnm : n = m
  · subst hnm
    go_enter Tryz.func38, Tryz.ntmps38
    go_wp2_with fail
    have hE := callSame
    go_loopw [7, 8, 9, 17] (fun iv av bv kv wr => ∃ j : Nat, j ≤ n ∧ kv = .int .i64 j ∧ Hid ((∀ i, i < j → gx zs i = gx ys i) ∧ Below w.heap.size w wr)) (fun _ _ _ kv _ => n - (intOf kv).toNat)
    case atStart => exact ⟨0, Nat.zero_le _, by go_num, fun i hi => by omega, Below.refl _ _⟩
    case round =>
      obtain ⟨j, hj, rfl, H⟩ := hrel
      rcases Nat.lt_or_ge j n with hlt | hge
      · have hh := h.below H.out.2
        have hk := k.below H.out.2
        have hv := hh.ev j hlt
        have hw := hk.ev j hlt
        obtain ⟨b, o, hp, hc⟩ := hh.pl (by omega)
        obtain ⟨c, r, hq, hd⟩ := hk.pl (by omega)
        subst hp hq
        obtain ⟨c0, c1⟩ := hc j (by omega)
        obtain ⟨d0, d1⟩ := hd j (by omega)
        have sb : b < wr.heap.size := block_lt_of_cell c0
        have sc : c < wr.heap.size := block_lt_of_cell d0
        clear hc hd hh hk
        go_wp2_with fail
        have hal := bel_al (o := .cells #[.bool (ge fs j).s, .slice (ge fs j).p (ge fs j).n (ge fs j).c] 29) (bel_al (o := .cells #[.bool (ge es j).s, .slice (ge es j).p (ge es j).n (ge es j).c] 29) (Below.refl wr.heap.size wr))
        refine (eqSame_any (hv.below hal) (hw.below hal)).mono ?_
        rintro e w1 ⟨rfl, hb1⟩
        have hB := bnext' H.out.2 (bnext' hal hb1)
        have hcs : Hid (gx zs j = gx ys j ∨ ¬ gx zs j = gx ys j) := Classical.em _
        clear c0 c1 d0 d1 hv hw hal hb1 sb sc
        rcases hcs.out with hz | hz
        · rw [decide_eq_true hz]
          have HZ : Hid (gx zs j = gx ys j) := hz
          clear hz hcs
          go_wp2
          go_roundw
          case rel => exact ⟨j + 1, by omega, by go_num, fun i hi => by
            rcases Nat.lt_or_ge i j with h' | h'
            · exact H.out.1 i h'
            · obtain rfl : i = j := by omega
              exact HZ.out, hB⟩
          case measure => simp [intOf]; omega
        · rw [decide_eq_false hz]
          have HD : Hid (decide (zs = ys) = false) := decide_eq_false fun e => hz (by rw [e])
          clear hz hcs
          go_wp2
          go_ret
          exact ⟨by rw [HD.out]; rfl, hB⟩
      · obtain rfl : j = n := by omega
        have HD : Hid (decide (zs = ys) = true) := decide_eq_true (gx_ext _ _ (by omega) fun i hi => H.out.1 i (by omega))
        have hB := H.out.2
        clear hge
        go_wp2
        go_ret
        exact ⟨by rw [HD.out]; rfl, hB⟩
  · have hne : ¬ zs = ys := fun e => hnm (by rw [← hzl, ← hyl, e])
    have HD : Hid (decide (zs = ys) = false) := decide_eq_false hne
    have hI : ((n : Int) != (m : Int)) = true := by rw [bne_iff_ne]; omega
    clear hne hel hfl hzl hyl
    go_enter Tryz.func38, Tryz.ntmps38
    go_wp2
    go_ret
    exact ⟨by rw [HD.out]; rfl, Below.refl _ _⟩
set_option maxHeartbeats 2000000 in
set_option maxRecDepth 100000 in
/-- upoly.Eq. -/
theorem uEq_any {w : World} {K L : Nat} {p q : Option Addr} {n nc m mc : Nat} {es fs : List Ent} {zs ys : List Int} (h : PA w K p n nc es zs) (k : PA w L q m mc fs ys) (hn : n ≤ 1000000) (hm : m ≤ 1000000) :
    Calls Tryz.prog 12 #[.slice p n nc, .slice q m mc] w fun r w' => r = .returned (.bool (decide (tr zs = tr ys))) ∧ Below w.heap.size w w' := by
  have htl := tlen_le zs
  have htl' := tlen_le ys
  have hzl := h.zl
  have hyl := k.zl
  go_enter Tryz.func12, Tryz.ntmps12
  go_wp2_with fail
  refine (utrim_any K p n nc es zs _ h hn).mono ?_
  rintro e w1 ⟨rfl, hb1⟩
  go_wp2_with fail
  refine (utrim_any L q m mc fs ys _ (k.below hb1) hm).mono ?_
  rintro e w2 ⟨rfl, hb2⟩
  have h2 := ((h.below hb1).below hb2).trim
  have k2 := ((k.below hb1).below hb2).trim
  go_wp2_with fail
  refine (eqFunc_any h2 k2 (by omega) (by omega)).mono ?_
  rintro e w3 ⟨rfl, hb3⟩
  go_wp2
  go_ret
  exact ⟨rfl, bnext' (bnext' hb1 hb2) hb3⟩
end Go.Proofs.YtakfimhpnpapdaaGreatDoor
