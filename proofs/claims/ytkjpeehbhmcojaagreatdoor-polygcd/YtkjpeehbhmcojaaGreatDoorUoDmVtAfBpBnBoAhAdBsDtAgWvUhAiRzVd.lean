/-
  upoly.Mul of small polynomials.
-/
import Derived.Test.YtkjpeehbhmcojaaGreatDoorUmVs
import Derived.Test.YtkjpeehbhmcojaaGreatDoorCyViDsAeVuWxUpUq
import Derived.Deep.DeepFit
import Derived.Test.YtkjpeehbhmcojaaGreatDoorAbDnDoAcReRxRfRhCqRrRwVa
import Derived.Test.YtkjpeehbhmcojaaGreatDoorDcUjLeUk
import Derived.Test.YtkjpeehbhmcojaaGreatDoorRkUiVq
import Derived.Test.YtkjpeehbhmcojaaGreatDoorUeUfUg
import Derived.Test.YtkjpeehbhmcojaaGreatDoorUaVgOnWhPn
import Derived.Test.YtkjpeehbhmcojaaGreatDoorBbCvNjUbUcUdOwRaWmBe
namespace Go.Proofs.YtkjpeehbhmcojaaGreatDoor
open Go.RowKit
set_option linter.unusedVariables false
set_option linter.unusedSimpArgs false
set_option maxHeartbeats 8000000
theorem PnP.from {zs : List Int} {K : Nat} {w w' : World} {e : Ending} {w'' : World} (h : PnP zs K w' e w'') (hb : Below w.heap.size w w') : PnP zs K w e w'' := by
  obtain ⟨p, n, es, h1, h2, h3⟩ := h
  exact ⟨p, n, es, h1, h2.mono hb.size, bnext' hb h3⟩
set_option maxRecDepth 100000 in
theorem uMul_rows {w : World} {K L : Nat} {p q : Option Addr} {n nc m mc : Nat} {es fs : List Ent} {zs ys : List Int} (h : PA w K p n nc es zs) (k : PA w L q m mc fs ys) (hn : n ≤ 80) (hm : m ≤ 80) (hn1 : 1 ≤ tlen zs) (hm1 : 1 ≤ tlen ys) (hK : K < 80) (hL : L < 80) (hd : wd (tr zs) (tr ys) ≤ 80) (hk : wd (tr zs) (tr ys) * min (tlen zs) (tlen ys) ≤ 80)
    (hc : sl (tr zs) * sl (tr ys) + 80 * cnt (tr zs) * cnt (tr ys) ≤ wd (tr zs) (tr ys) * tlen zs * wd (tr zs) (tr ys) * tlen ys + 160 * (tlen zs + tlen ys)) :
    Calls Tryz.prog 17 #[.slice p n nc, .slice q m mc] w (PnP (mulz (tr zs) (tr ys)) (K + L + 1) w) := by
  have HC := (show Hid _ from hc)
  have HD := (show Hid _ from hd)
  have HK := (show Hid _ from hk)
  have hzl := h.zl
  have hyl := k.zl
  have htz := tlen_le zs
  have hty := tlen_le ys
  clear hc hd hk
  go_enter Tryz.func17, Tryz.ntmps17
  go_wp2_with fail
  refine (read_any K p n nc es zs _ h (by omega) (by omega)).mono ?_
  rintro e w1 ⟨p1, n1, es1, rfl, h1, hb1⟩
  go_wp2_with fail
  refine (read_any L q m mc fs ys _ (k.below hb1) (by omega) (by omega)).mono ?_
  rintro e w2 ⟨q1, m1, fs1, rfl, k1, hb2⟩
  have hn' := h1.zl
  have hm' := k1.zl
  rw [length_tr] at hn' hm'
  subst hn' hm'
  go_wp2_with fail
  refine (product_rows (h1.below hb2) k1 (by omega) (by omega) hn1 hm1 hK hL HD.out HK.out HC.out).mono ?_
  rintro e w3 ⟨p3, n3, es3, rfl, h3, hb3⟩
  go_wp2
  go_ret
  exact PnP.from ⟨p3, n3, es3, rfl, h3, hb3⟩ (bnext' hb1 hb2)
def mulp (zs ys : List Int) : List Int := if zs.length = 0 ∨ ys.length = 0 then [] else mulz zs ys
theorem pr_nil (w : World) (N : Nat) : PR w N none 0 0 [] [] := ⟨rfl, rfl, Nat.le_refl _, Nat.zero_le _, PL.nil, fun j hj => by omega⟩
set_option maxRecDepth 100000 in
theorem rpMul_nil (w : World) (N : Nat) (p q : Option Addr) (n m nc mc : Nat) (hn : n ≤ 1000000) (hm : m ≤ 1000000) (h : n = 0 ∨ m = 0) :
    Calls Tryz.prog 10 #[.slice p n nc, .slice q m mc] w (PrF [] N w) := by
  by_cases h0 : n = 0
  · subst h0
    go_enter Tryz.func10, Tryz.ntmps10
    go_wp2
    go_ret
    exact ⟨none, 0, [], rfl, pr_nil _ _, (fun a ha => by cases ha), rfl, fun j hj => absurd hj (Nat.not_lt_zero j), Below.refl _ _⟩
  · have h1 : m = 0 := by omega
    subst h1
    have g1 : ((n : Int) == 0) = false := by rw [beq_eq_false_iff_ne]; omega
    have g3 : ¬ (n : Int) = 0 := by omega
    go_enter Tryz.func10, Tryz.ntmps10
    go_wp2
    go_ret
    exact ⟨none, 0, [], rfl, pr_nil _ _, (fun a ha => by cases ha), rfl, fun j hj => absurd hj (Nat.not_lt_zero j), Below.refl _ _⟩
theorem rpMul_new {w : World} {A B K L : Nat} {p q : Option Addr} {n nc m mc : Nat} {es fs : List Ent} {zs ys : List Int} (h : PR w A p n nc es zs) (k : PR w B q m mc fs ys) (hz : tlen zs = zs.length) (hy : tlen ys = ys.length) (hn : n ≤ 1000) (hm : m ≤ 1000) (hA : A ≤ 200) (hB : B ≤ 200) (hX : ∀ i, ((gx zs i).natAbs : Int) < pw K) (hY : ∀ i, ((gx ys i).natAbs : Int) < pw L) (hKL : K + L ≤ 100) :
    Calls Tryz.prog 10 #[.slice p n nc, .slice q m mc] w (PrF (mulp zs ys) (2 * (K + L + 1)) w) := by
  rw [mulp, h.zl, k.zl]
  by_cases h0 : n = 0 ∨ m = 0
  · rw [if_pos h0]
    exact rpMul_nil w _ p q n m nc mc (by omega) (by omega) h0
  · rw [if_neg h0]
    have hzl := h.zl
    have hyl := k.zl
    have := rpMul_somen h k hn hm (by omega) (by omega) hA hB hX hY hKL
    rwa [tr_of_tlen (by rw [mulz_top hz hy (by omega) (by omega), length_mulz])] at this
theorem rpMul_any {w : World} {A B K L : Nat} {p q : Option Addr} {n nc m mc : Nat} {es fs : List Ent} {zs ys : List Int} (h : PR w A p n nc es zs) (k : PR w B q m mc fs ys) (hz : tlen zs = zs.length) (hy : tlen ys = ys.length) (hn : n ≤ 1000) (hm : m ≤ 1000) (hA : A ≤ 200) (hB : B ≤ 200) (hX : ∀ i, ((gx zs i).natAbs : Int) < pw K) (hY : ∀ i, ((gx ys i).natAbs : Int) < pw L) (hKL : K + L ≤ 100) :
    Calls Tryz.prog 10 #[.slice p n nc, .slice q m mc] w (PrP (mulp zs ys) (2 * (K + L + 1)) w) :=
  (rpMul_new h k hz hy hn hm hA hB hX hY hKL).mono fun _ _ h => h.any
theorem pr_bdk {w : World} {K : Nat} {p : Option Addr} {n nc : Nat} {es : List Ent} {zs : List Int} (h : PR w (2 * K) p n nc es zs) (i : Nat) : ((gx zs i).natAbs : Int) < pw K := by
  have e : pd (2 * K) = pw K := by unfold pd pw; rw [Int.pow_mul]; rfl
  rcases Nat.lt_or_ge i n with hi | hi
  · rw [← e]
    exact (h.ev i hi).1.bd
  · have h0 : gx zs i = 0 := by simp [gx, h.zl, hi]
    rw [h0]
    exact pw_pos K
theorem pb_trim (zs : List Int) : pb (tr zs) = pb zs := by
  have step : ∀ j, tlen zs ≤ j → j ≤ zs.length → pb (zs.take j) = pb (tr zs) := by
    intro j
    induction j with
    | zero => intro h1 _; have : tlen zs = 0 := by omega
              rw [tr, this]
    | succ j ih =>
      intro h1 h2
      rcases Nat.lt_or_ge j (tlen zs) with h | h
      · have : tlen zs = j + 1 := by omega
        rw [tr, this]
      · rw [pb_take zs j (by omega), ih h (by omega), tlen_zero zs j h, show zb 0 = 0 from rfl, Nat.max_zero]
  have := step zs.length (tlen_le zs) (Nat.le_refl _)
  rw [List.take_length] at this
  exact this.symm
theorem pb_le_of (zs : List Int) (K : Nat) (h : ∀ j, j < zs.length → zb (gx zs j) ≤ K) : ∀ j, j ≤ zs.length → pb (zs.take j) ≤ K
  | 0, _ => by simp [pb]
  | j + 1, hj => by
    rw [pb_take zs j (by omega)]
    have := pb_le_of zs K h j (by omega)
    have := h j (by omega)
    omega
theorem zb_pb (zs : List Int) (j : Nat) (h : j < zs.length) : zb (gx zs j) ≤ pb zs := by
  have h1 : ∀ k, j < k → k ≤ zs.length → zb (gx zs j) ≤ pb (zs.take k) := by
    intro k
    induction k with
    | zero => intro h; omega
    | succ k ih =>
      intro h1 h2
      rw [pb_take zs k (by omega)]
      rcases Nat.lt_or_ge j k with h3 | h3
      · have := ih h3 (by omega)
        omega
      · have : k = j := by omega
        subst this
        omega
  have := h1 zs.length h (Nat.le_refl _)
  rwa [List.take_length] at this
theorem Cmp_any (s t : Bool) (p q : Option Addr) (n nc m mc : Nat) (xs ys : List Int) (w : World) (hA : AI w p n nc xs) (hB : AI w q m mc ys) :
    Calls Tryz.prog 54 #[.agg #[.bool s, .slice p n nc], .agg #[.bool t, .slice q m mc]] w fun e w' => e = .returned (.int .i64 (icmp (ival s xs) (ival t ys))) ∧ Below w.heap.size w w' := by
  have hd : Hid (isgn (ival s xs) = isgn (ival t ys) ∨ isgn (ival s xs) ≠ isgn (ival t ys)) := Classical.em _
  have q1 : -1 ≤ isgn (ival s xs) ∧ isgn (ival s xs) ≤ 1 := by rcases isgn_cases (ival s xs) with h | h | h <;> omega
  have q2 : -1 ≤ icmp (val xs) (val ys) ∧ icmp (val xs) (val ys) ≤ 1 := by unfold icmp; split <;> (try split) <;> decide
  obtain ⟨q1, q1'⟩ := q1
  obtain ⟨q2, q2'⟩ := q2
  go_enter Tryz.func54, Tryz.ntmps54
  go_wp2_with fail
  have hX0 := boxes2 w (.bool s) (.slice p n nc) (.bool t) (.slice q m mc) 47 47
  generalize ((w.alloc (Obj.cells #[Value.bool s, Value.slice p n nc] 47)).alloc (Obj.cells #[Value.bool t, Value.slice q m mc] 47)) = W0 at *
  refine (Sign_any s p n nc xs _ (hA.below hX0.below)).mono ?_
  rintro e W1 ⟨rfl, hb0⟩
  have hX1 := hX0.later hb0
  clear hX0 hb0 W0
  have k0 := hX1.ca0
  have k1 := hX1.ca1
  have k2 := hX1.cb0
  have k3 := hX1.cb1
  go_wp2_with fail
  refine (Sign_any t q m mc ys _ (hB.below hX1.below)).mono ?_
  rintro e W ⟨rfl, hb0⟩
  have hX := hX1.later hb0
  clear hX1 hb0 k0 k1 k2 k3 W1
  have k0 := hX.ca0
  have k1 := hX.ca1
  have k2 := hX.cb0
  have k3 := hX.cb1
  rcases hd.out with h | h
  · have hne : (isgn (ival s xs) != isgn (ival t ys)) = false := by rw [h]; simp
    have H : Hid (isgn (ival s xs) = isgn (ival t ys)) := h
    clear h hd
    go_wp2_with fail
    have hA' := hA.below hX.below
    have hB' := hB.below hX.below
    refine (compare_any p q n nc m mc xs ys _ hA.len hB.len hA.cap hA.bnd hB.cap hB.bnd hA'.rd hA.u hB'.rd hB.u).mono ?_
    rintro e w1 ⟨rfl, hb1⟩
    have hw : wrap64 (isgn (ival s xs) * icmp (val xs) (val ys)) = icmp (ival s xs) (ival t ys) := by
      rw [icmp_same hA.u hB.u H.out]
      unfold icmp; split <;> (try split) <;> simp [wrap64, IntKind.wrap, IntKind.bits, IntKind.signed]
    go_wp2
    go_ret
    refine ⟨?_, hX.below.trans (hb1.mono hX.below.size)⟩
    first
      | exact ret_int hw
      | exact ret_int (icmp_same hA.u hB.u H.out)
      | rfl
  · have hne : (isgn (ival s xs) != isgn (ival t ys)) = true := by rw [bne_iff_ne]; exact h
    clear hd
    go_wp2_with fail
    refine (compareInt_any _ _ _).mono ?_
    rintro e w1 ⟨rfl, rfl⟩
    go_wp2
    go_ret
    exact ⟨ret_int (icmp_isgn h), hX.below⟩
theorem Cmp_ev {w : World} {K L : Nat} {x y : Int} {e f : Ent} (h : EV w K x e) (k : EV w L y f) : Calls Tryz.prog 54 #[.agg #[.bool e.s, .slice e.p e.n e.c], .agg #[.bool f.s, .slice f.p f.n f.c]] w fun r w' => r = .returned (.int .i64 (icmp x y)) ∧ Below w.heap.size w w' := by
  obtain ⟨xs, h1, rfl, h3⟩ := h
  obtain ⟨ys, k1, rfl, k3⟩ := k
  exact Cmp_any e.s f.s e.p f.p e.n e.c f.n f.c xs ys w h1 k1
theorem icmp_dec (x y : Int) : (icmp x y == 0) = decide (x = y) := by
  unfold icmp
  rcases Int.lt_trichotomy x y with h | h | h
  · rw [if_pos h]; simp; omega
  · subst h; simp
  · rw [if_neg (by omega), if_pos h]; simp; omega
set_option maxRecDepth 100000 in
theorem eqSame_any {w : World} {K L : Nat} {x y : Int} {e f : Ent} (h : EV w K x e) (k : EV w L y f) : Calls Tryz.prog 53 #[.agg #[.bool e.s, .slice e.p e.n e.c], .agg #[.bool f.s, .slice f.p f.n f.c]] w fun r w' => r = .returned (.bool (decide (x = y))) ∧ Below w.heap.size w w' := by
  have hd : Hid ((icmp x y == 0) = decide (x = y)) := icmp_dec x y
  go_enter Tryz.func53, Tryz.ntmps53
  go_wp2_with fail
  have hW : Below w.heap.size w ((w.alloc (.cells #[.bool e.s, .slice e.p e.n e.c] 47)).alloc (.cells #[.bool f.s, .slice f.p f.n f.c] 47)) := ((Below.refl _ _).alloc (Nat.le_refl _) _).alloc (by simp) _
  generalize (w.alloc (.cells #[.bool e.s, .slice e.p e.n e.c] 47)).alloc (.cells #[.bool f.s, .slice f.p f.n f.c] 47) = W at *
  refine (Cmp_ev (h.below hW) (k.below hW)).mono ?_
  rintro r w1 ⟨rfl, hb1⟩
  go_wp2
  go_ret
  exact ⟨by rw [hd.out]; rfl, bnext' hW hb1⟩
theorem callSame (args : Array Value) (w' : World) : Sem.run Tryz.prog (callFunc 53 args) w' = .ok (.enter 53 args) w' := by
  have h1 : ¬ Tryz.f53.name = "runtime.NumGoroutine" := of_decide_eq_false (by kernel_rfl)
  have h2 : ¬ Tryz.f53.body = none := fun h => by cases h
  simp only [callFunc, Tryz.func53, go_sem]
  simp [h1, h2, go_sem]
set_option maxRecDepth 100000 in
theorem eqFunc_any {w : World} {K L : Nat} {p q : Option Addr} {n nc m mc : Nat} {es fs : List Ent} {zs ys : List Int} (h : PA w K p n nc es zs) (k : PA w L q m mc fs ys) (hn : n ≤ 1000000) (hm : m ≤ 1000000) :
    Calls Tryz.prog 55 #[.slice p n nc, .slice q m mc, .func (.func 53) #[] #[]] w fun r w' => r = .returned (.bool (decide (zs = ys))) ∧ Below w.heap.size w w' := by
  have hel := h.el
  have hfl := k.el
  have hzl := h.zl
  have hyl := k.zl
  by_cases hnm : n = m
  · subst hnm
    go_enter Tryz.func55, Tryz.ntmps55
    go_wp2_with fail
    have hE := callSame
    go_loopw [7, 8, 9, 17] (fun iv av bv kv wr => ∃ j : Nat, j ≤ n ∧ kv = .int .i64 j ∧ Hid ((∀ i, i < j → gx zs i = gx ys i) ∧ Below w.heap.size w wr)) (fun _ _ _ kv _ => n - (intOf kv).toNat)
    case atStart => exact ⟨0, Nat.zero_le _, by go_num, fun i hi => by omega, Below.refl _ _⟩
    case round =>
      obtain ⟨j, hj, rfl, H⟩ := hrel
      rcases Nat.lt_or_ge j n with hlt | hge
      · have hh := h.below H.out.2
        have hk := k.below H.out.2
        have hv := hh.ev j hlt
        have hw := hk.ev j hlt
        obtain ⟨b, o, hp, hc⟩ := hh.pl (by omega)
        obtain ⟨c, r, hq, hd⟩ := hk.pl (by omega)
        subst hp hq
        obtain ⟨c0, c1⟩ := hc j (by omega)
        obtain ⟨d0, d1⟩ := hd j (by omega)
        have sb : b < wr.heap.size := block_lt_of_cell c0
        have sc : c < wr.heap.size := block_lt_of_cell d0
        clear hc hd hh hk
        go_wp2_with fail
        have hal := bel_al (o := .cells #[.bool (ge fs j).s, .slice (ge fs j).p (ge fs j).n (ge fs j).c] 47) (bel_al (o := .cells #[.bool (ge es j).s, .slice (ge es j).p (ge es j).n (ge es j).c] 47) (Below.refl wr.heap.size wr))
        refine (eqSame_any (hv.below hal) (hw.below hal)).mono ?_
        rintro e w1 ⟨rfl, hb1⟩
        have hB := bnext' H.out.2 (bnext' hal hb1)
        have hcs : Hid (gx zs j = gx ys j ∨ ¬ gx zs j = gx ys j) := Classical.em _
        clear c0 c1 d0 d1 hv hw hal hb1 sb sc
        rcases hcs.out with hz | hz
        · rw [decide_eq_true hz]
          have HZ : Hid (gx zs j = gx ys j) := hz
          clear hz hcs
          go_wp2
          go_roundw
          case rel => exact ⟨j + 1, by omega, by go_num, fun i hi => by
            rcases Nat.lt_or_ge i j with h' | h'
            · exact H.out.1 i h'
            · obtain rfl : i = j := by omega
              exact HZ.out, hB⟩
          case measure => simp [intOf]; omega
        · rw [decide_eq_false hz]
          have HD : Hid (decide (zs = ys) = false) := decide_eq_false fun e => hz (by rw [e])
          clear hz hcs
          go_wp2
          go_ret
          exact ⟨by rw [HD.out]; rfl, hB⟩
      · obtain rfl : j = n := by omega
        have HD : Hid (decide (zs = ys) = true) := decide_eq_true (gx_ext _ _ (by omega) fun i hi => H.out.1 i (by omega))
        have hB := H.out.2
        clear hge
        go_wp2
        go_ret
        exact ⟨by rw [HD.out]; rfl, hB⟩
  · have hne : ¬ zs = ys := fun e => hnm (by rw [← hzl, ← hyl, e])
    have HD : Hid (decide (zs = ys) = false) := decide_eq_false hne
    have hI : ((n : Int) != (m : Int)) = true := by rw [bne_iff_ne]; omega
    clear hne hel hfl hzl hyl
    go_enter Tryz.func55, Tryz.ntmps55
    go_wp2
    go_ret
    exact ⟨by rw [HD.out]; rfl, Below.refl _ _⟩
set_option maxRecDepth 100000 in
theorem uEq_any {w : World} {K L : Nat} {p q : Option Addr} {n nc m mc : Nat} {es fs : List Ent} {zs ys : List Int} (h : PA w K p n nc es zs) (k : PA w L q m mc fs ys) (hn : n ≤ 1000000) (hm : m ≤ 1000000) :
    Calls Tryz.prog 20 #[.slice p n nc, .slice q m mc] w fun r w' => r = .returned (.bool (decide (tr zs = tr ys))) ∧ Below w.heap.size w w' := by
  have htl := tlen_le zs
  have htl' := tlen_le ys
  have hzl := h.zl
  have hyl := k.zl
  go_enter Tryz.func20, Tryz.ntmps20
  go_wp2_with fail
  refine (utrim_any K p n nc es zs _ h hn).mono ?_
  rintro e w1 ⟨rfl, hb1⟩
  go_wp2_with fail
  refine (utrim_any L q m mc fs ys _ (k.below hb1) hm).mono ?_
  rintro e w2 ⟨rfl, hb2⟩
  have h2 := ((h.below hb1).below hb2).trim
  have k2 := ((k.below hb1).below hb2).trim
  go_wp2_with fail
  refine (eqFunc_any h2 k2 (by omega) (by omega)).mono ?_
  rintro e w3 ⟨rfl, hb3⟩
  go_wp2
  go_ret
  exact ⟨rfl, bnext' (bnext' hb1 hb2) hb3⟩
set_option maxRecDepth 100000 in
theorem rIs_any {B : Nat} {w : World} {s t : Bool} {p q : Option Addr} {n m mc : Nat} {xs ds : List Int} {z : Int} (h : NI B w s p n xs z) (hn : n ≤ 1000) (hl : ds.length = m) (hm : m ≤ 1000) (hX : Rd w q .i64 ds) (hU : U16 ds) (hnr : tlen ds = m) (hs : m = 0 → t = false) (hv : rval t ds = z) :
    Calls Tryz.prog 30 #[.agg #[.bool s, .slice p n n], .agg #[.bool t, .slice q m mc]] w fun e w' => e = .returned (.bool true) ∧ Below w.heap.size w w' := by
  go_enter Tryz.func30, Tryz.ntmps30
  go_wp2_with fail
  have hX2 := boxes2 w (.bool s) (.slice p n n) (.bool t) (.slice q m mc) 47 50
  generalize ((w.alloc (Obj.cells #[Value.bool s, Value.slice p n n] 47)).alloc (Obj.cells #[Value.bool t, Value.slice q m mc] 50)) = W at *
  have k0 := hX2.ca0
  have k1 := hX2.ca1
  have k2 := hX2.cb0
  have k3 := hX2.cb1
  go_region_held3 (fun w' => w'.cell? ⟨w.heap.size, 0, none⟩ = some (.bool s) ∧ w'.cell? ⟨w.heap.size, 1, none⟩ = some (.slice p n n) ∧ w'.cell? ⟨w.heap.size + 1, 0, none⟩ = some (.bool t) ∧ w'.cell? ⟨w.heap.size + 1, 1, none⟩ = some (.slice q m mc)) (first | exact ⟨by assumption, by assumption, by assumption, by assumption⟩ | exact keepc4 (by assumption) (by assumption))
    (first
      | (go_at_call 27; refine (rTo_any t q m mc ds _ hl hm (hX.below hX2.below).drew hU).mono ?_; rintro e w1 ⟨p', m', cap, rfl, hA1, hm', hb1⟩)
      | (go_at_call 70; have h1 := h.below (bnext' hX2.below (undrew hb1)); have h2 : NN t (jn ds m') z := nn_jn hU (by omega) (fun e => hs (by omega)) hv (by have := hm'.out; omega); refine (rEq_nn h1 hA1 h2 hn).mono ?_; rintro e w2 ⟨rfl, hb2⟩))
  go_wp2
  go_ret
  exact ⟨rfl, bnext' (bnext' hX2.below (undrew hb1)) hb2⟩
theorem rIs_e {B : Nat} {w : World} {K N : Nat} {z : Int} {e f : Ent} (h : NV B w K z e) (hK : K ≤ 1000) (k : RE w N z f) (hN : N ≤ 1000) :
    Calls Tryz.prog 30 #[.agg #[.bool e.s, .slice e.p e.n e.c], .agg #[.bool f.s, .slice f.p f.n f.c]] w fun r w' => r = .returned (.bool true) ∧ Below w.heap.size w w' := by
  obtain ⟨xs, h1, h2, h3⟩ := h
  obtain ⟨⟨ds, k1, k2, k3⟩, k4⟩ := k
  rw [h2, k4]
  exact rIs_any h1 (by omega) k1.len (by omega) k1.rd k1.u k1.nrm k1.sg k2
theorem NV.drew {B : Nat} {w : World} {K : Nat} {z : Int} {e : Ent} (h : NV B w K z e) : NV B w.drew K z e := by
  obtain ⟨xs, h1, h2⟩ := h
  exact ⟨xs, h1.drew, h2⟩
set_option maxRecDepth 100000 in
theorem rpIs_any {B : Nat} {w : World} {K N : Nat} {p q : Option Addr} {n nc : Nat} {es fs : List Ent} {zs : List Int} (h : PN B w K p n es zs) (k : PR w N q n nc fs zs) (hK : K ≤ 1000) (hN : N ≤ 1000) (hn : n ≤ 1000000) :
    Calls Tryz.prog 11 #[.slice p n n, .slice q n nc] w fun r w' => r = .returned (.bool true) ∧ Below w.heap.size w w' := by
  have hel := h.el
  have hfl := k.el
  go_enter Tryz.func11, Tryz.ntmps11
  go_wp2_with fail
  go_loopw [5, 6] (fun iv sv wr => ∃ j : Nat, j ≤ n ∧ iv = .int .i64 j ∧ Hid (Below w.heap.size w wr)) (fun iv _ _ => n - (intOf iv).toNat)
  case atStart => exact ⟨0, Nat.zero_le _, by go_num, Below.refl _ _⟩
  case round =>
    obtain ⟨j, hj, rfl, H⟩ := hrel
    rcases Nat.lt_or_ge j n with hlt | hge
    · have hh := h.below H.out
      have hk := k.below H.out
      have hv := hh.ev j hlt
      have hw := hk.ev j hlt
      obtain ⟨b, o, hp, hc⟩ := hh.pl (by omega)
      obtain ⟨c, r, hq, hd⟩ := hk.pl (by omega)
      subst hp hq
      obtain ⟨c0, c1⟩ := hc j (by omega)
      obtain ⟨d0, d1⟩ := hd j (by omega)
      clear hc hd hh hk
      go_wp2_with fail
      go_region_held3 (fun w' => w'.cell? ⟨b, o + j * 2, none⟩ = some (.bool (ge es j).s) ∧ w'.cell? ⟨b, o + j * 2 + 1, none⟩ = some (.slice (ge es j).p (ge es j).n (ge es j).c) ∧ w'.cell? ⟨c, r + j * 2, none⟩ = some (.bool (ge fs j).s) ∧ w'.cell? ⟨c, r + j * 2 + 1, none⟩ = some (.slice (ge fs j).p (ge fs j).n (ge fs j).c)) (first | with_reducible exact ⟨c0, c1, d0, d1⟩ | with_reducible exact keepc4 ⟨c0, c1, d0, d1⟩ hV1 | (simp [go_sem, *]; done))
        (first
          | (go_at_call 30; refine (rIs_e (hv.drew) hK hw.drew hN).mono ?_; rintro e w1 ⟨rfl, hb1⟩; have hV1 := undrew hb1))
      have hB := bnext' H.out hV1
      clear c0 c1 d0 d1 hv hw
      go_wp2
      go_roundw
      case rel => exact ⟨j + 1, by omega, by go_num, hB⟩
      case measure => simp [intOf]; omega
    · obtain rfl : j = n := by omega
      go_wp2
      go_ret
      exact ⟨rfl, H.out⟩
end Go.Proofs.YtkjpeehbhmcojaaGreatDoor
