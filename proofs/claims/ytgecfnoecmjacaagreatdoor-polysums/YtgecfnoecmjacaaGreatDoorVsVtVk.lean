/-
  ashlarref3.Mul.
-/
import Derived.Test.YtgecfnoecmjacaaGreatDoorVfRtVeVr
import Derived.Test.YtgecfnoecmjacaaGreatDoorUl
import Derived.Test.YtgecfnoecmjacaaGreatDoorUmPqGaGbKp
import Derived.Test.YtgecfnoecmjacaaGreatDoorVuVvUdLnWrIb
import Derived.Deep.DeepFit
import Derived.Test.YtgecfnoecmjacaaGreatDoorUoPxPyHfUh
import Derived.Test.YtgecfnoecmjacaaGreatDoorRbCyVi
import Derived.Test.YtgecfnoecmjacaaGreatDoorOaOfJpLe
import Derived.Test.YtgecfnoecmjacaaGreatDoorCu
namespace Go.Proofs.YtgecfnoecmjacaaGreatDoor
open Go.RowKit
set_option linter.unusedVariables false
set_option linter.unusedSimpArgs false

theorem mk_rpoly (n : Nat) (h : n ≤ 1000000000) (w : World) : (Instr.makeSlice 31 (.int .i64 n) (.int .i64 n)).run Tryz.prog w =
    .ok (.slice (some ⟨w.heap.size, 0, none⟩) n n) (w.alloc (.cells (ca2 (ezs n)) 35)) := by
  have hi := info_ref
  cases hq : Tryz.prog.info? 35 with
  | none => rw [hq] at hi; cases hi
  | some i =>
    rw [hq] at hi
    simp only [Option.map_some, Option.some.injEq, Prod.mk.injEq] at hi
    obtain ⟨h1, h2, h3⟩ := hi
    have hr := run_make (P := Tryz.prog) w 31 35 i (.agg #[.bool false, .slice none 0 0]) Tryz.underlying31 hq h1 .i64 .i64 n n (by omega) (Int.le_refl _) (by rw [h3]; omega) (by omega)
    rw [Int.toNat_natCast, h2] at hr
    rw [hr]
    exact congrArg (fun c => Result.ok (Value.slice (some ⟨w.heap.size, 0, none⟩) n n) (w.alloc (.cells c 35))) (made_ez n)
/-- A number of the reference that lies from block B on. -/
def RF (B : Nat) (w : World) (N : Nat) (z : Int) (e : Ent) : Prop := RE w N z e ∧ Go.Proofs.YtgecfnoecmjacaaGreatDoor.From B e.p
theorem RF.below {B : Nat} {w w' : World} {N : Nat} {z : Int} {e : Ent} (h : RF B w N z e) (hb : Below w.heap.size w w') : RF B w' N z e := ⟨h.1.below hb, h.2⟩
theorem RF.mono {B B' : Nat} {w : World} {N : Nat} {z : Int} {e : Ent} (h : RF B w N z e) (hB : B' ≤ B) : RF B' w N z e := ⟨h.1, fun a ha => Nat.le_trans hB (h.2 a ha)⟩
theorem RF.set2 {B : Nat} {w : World} {N : Nat} {z : Int} {e : Ent} {g o : Nat} (h : RF B w N z e) (hg : g < B) (u v : Value) : RF B ((w.setCell ⟨g, o, none⟩ u).setCell ⟨g, o + 1, none⟩ v) N z e :=
  ⟨h.1.set2 (fun _ a ha => by have := h.2 a ha; omega), h.2⟩
theorem RF.le {B : Nat} {w : World} {N M : Nat} {z : Int} {e : Ent} (h : RF B w N z e) (hz : (z.natAbs : Int) < pd M) : RF B w M z e := by
  obtain ⟨⟨⟨ds, h1, h2, h3⟩, h4⟩, h5⟩ := h
  exact ⟨⟨⟨ds, h1, h2, h1.fit (by rw [h2]; exact hz)⟩, h4⟩, h5⟩
theorem RF.ez (B : Nat) (w : World) (N : Nat) : RF B w N 0 ez := ⟨⟨⟨[], ⟨rfl, Rd.nil, fun j => by simp [gx], by decide, fun _ => rfl, Nat.zero_le _⟩, by decide, Nat.zero_le _⟩, rfl⟩, fun a ha => by cases ha⟩
/-- Behind some rows of a product. -/
def PrR (F : Nat → Int) (M g N : Nat) (W0 wr : World) : Prop :=
  ∃ es, Row2 wr g 35 es ∧ es.length = N ∧ (∀ t, t < N → RF (g + 1) wr M (F t) (ge es t)) ∧ Below g W0 wr
/-- One entry of a row. -/
theorem rrows_step {w W0 W2 v2 v3 : World} {M M' N i j t : Nat} {zs ys : List Int} {us : List Ent} {e2 : Ent} (hR1 : Row2 W2 w.heap.size 35 us) (hul : us.length = N) (hev : ∀ t, t < N → RF (w.heap.size + 1) W2 M (pj zs ys i j t) (ge us t)) (hB1 : Below w.heap.size W0 W2)
    (hpb : ((pj zs ys i (j + 1) t).natAbs : Int) < pd M) (ht : t = i + j) (htN : t < N) (hs0 : w.heap.size + 1 ≤ W0.heap.size)
    (hV2 : Below W2.heap.size W2 v2) (hb3 : Below v2.heap.size v2 v3) (hN2 : RF v2.heap.size v3 M' (pj zs ys i j t + gx zs i * gx ys j) e2) :
    PrR (pj zs ys i (j + 1)) M w.heap.size N W0 ((v3.setCell ⟨w.heap.size, t * 2, none⟩ (.bool e2.s)).setCell ⟨w.heap.size, t * 2 + 1, none⟩ (.slice e2.p e2.n e2.c)) := by
  have hb := bnext' hV2 hb3
  have hR3 := hR1.below hb hR1.lt
  have hs1 := hB1.size
  have hs2 := hV2.size
  have hval : pj zs ys i j t + gx zs i * gx ys j = pj zs ys i (j + 1) t := by subst ht; exact (pj_succ_same zs ys i j).symm
  rw [hval] at hN2
  refine ⟨us.set t e2, hR3.set t e2 (by omega), by simpa using hul, fun t' ht' => ?_, ?_⟩
  · by_cases he : t' = t
    · subst he
      rw [ge_set_same _ _ _ (by omega)]
      exact ((hN2.le hpb).mono (by omega)).set2 (by omega) _ _
    · rw [ge_set_other _ _ _ _ he, pj_succ_other _ _ _ _ _ (by omega)]
      exact ((hev t' ht').below hb).set2 (by omega) _ _
  · exact ((hB1.trans (hb.mono (by omega))).setCell (p := ⟨w.heap.size, t * 2, none⟩) (Nat.le_refl _) _).setCell (p := ⟨w.heap.size, t * 2 + 1, none⟩) (Nat.le_refl _) _
set_option maxHeartbeats 4000000 in
set_option maxRecDepth 100000 in
/-- ashlarref3.Mul of two that are not zero. -/
theorem rpMul_some {w : World} {A B K L : Nat} {p q : Option Addr} {n nc m mc : Nat} {es fs : List Ent} {zs ys : List Int} (h : PR w A p n nc es zs) (k : PR w B q m mc fs ys) (hn : n ≤ 1000) (hm : m ≤ 1000) (hn1 : 1 ≤ n) (hm1 : 1 ≤ m) (hA : A ≤ 200) (hB : B ≤ 200) (hX : ∀ i, ((gx zs i).natAbs : Int) < pw K) (hY : ∀ i, ((gx ys i).natAbs : Int) < pw L) (hKL : K + L ≤ 100) :
    Calls Tryz.prog 20 #[.slice p n nc, .slice q m mc] w (PrP (tr (mulz zs ys)) (2 * (K + L + 1)) w) := by
  have hel := h.el
  have hfl := k.el
  have hzl := h.zl
  have hyl := k.zl
  obtain ⟨N, hN⟩ : ∃ N, N = n + m - 1 := ⟨_, rfl⟩
  have hNI : (n : Int) + (m : Int) - 1 = (N : Int) := by omega
  have w1 : IntKind.i64.wrap ((n : Int) + (m : Int)) = (n : Int) + (m : Int) := by rw [IntKind.wrap_i64]; omega
  have w2 : IntKind.i64.wrap (N : Int) = (N : Int) := by rw [IntKind.wrap_i64]; omega
  have g1 : ((n : Int) == 0) = false := by rw [beq_eq_false_iff_ne]; omega
  have g2 : ((m : Int) == 0) = false := by rw [beq_eq_false_iff_ne]; omega
  have g3 : ¬ (n : Int) = 0 := by omega
  have g4 : ¬ (m : Int) = 0 := by omega
  have HN : Hid (N = n + m - 1) := hN
  have hN3 : N ≤ 2000 := by omega
  obtain ⟨S, hS⟩ : ∃ S, S = 2 * (K + L + 1) := ⟨_, rfl⟩
  rw [← hS]
  have HS : Hid (S = 2 * (K + L + 1)) := hS
  have hS2 : S ≤ 202 := by omega
  clear hN hS
  have hmk := mk_rpoly N (by omega)
  have HX := (show Hid (∀ i, ((gx zs i).natAbs : Int) < pw K) from hX)
  have HY := (show Hid (∀ i, ((gx ys i).natAbs : Int) < pw L) from hY)
  clear hX hY
  go_enter Tryz.func20, Tryz.ntmps20
  go_wp2_with fail
  have hR0 := Row2.new w 35 (ezs N)
  have hW0 : Below w.heap.size w (w.alloc (.cells (ca2 (ezs N)) 35)) := (Below.refl _ _).alloc (Nat.le_refl _) _
  have hs0 : w.heap.size + 1 ≤ (w.alloc (.cells (ca2 (ezs N)) 35)).heap.size := by simp
  generalize w.alloc (.cells (ca2 (ezs N)) 35) = W0 at *
  clear hmk
  go_loopw [6, 7] (fun iv jv wr => ∃ i : Nat, i ≤ n ∧ iv = .int .i64 i ∧ Hid (PrR (ps zs ys i) S w.heap.size N W0 wr)) (fun iv _ _ => n - (intOf iv).toNat)
  case atStart => exact ⟨0, Nat.zero_le _, by go_num, ezs N, hR0, length_ezs N, fun t ht => by rw [ge_ezs]; exact RF.ez _ _ _, Below.refl _ _⟩
  case round =>
    obtain ⟨i, hi, rfl, H⟩ := hrel
    rcases Nat.lt_or_ge i n with hlt | hge
    · have i1 : (i : Int) < (n : Int) := by omega
      go_wp2_with fail
      go_loopw [7] (fun jv w3 => ∃ j : Nat, j ≤ m ∧ jv = .int .i64 j ∧ Hid (PrR (pj zs ys i j) S w.heap.size N W0 w3)) (fun jv _ => m - (intOf jv).toNat)
      case atStart =>
        obtain ⟨es', hR, hel', hev, hB⟩ := H.out
        exact ⟨0, Nat.zero_le _, by go_num, es', hR, hel', fun t ht => by rw [pj_zero]; exact hev t ht, hB⟩
      case round =>
        obtain ⟨j, hj, rfl, HJ⟩ := hrel
        rcases Nat.lt_or_ge j m with hjm | hjm
        · obtain ⟨us, hR1, hul, hev, hB1⟩ := HJ.out
          have hBw : Below w.heap.size w wr := hW0.trans hB1
          have hPA := h.below hBw
          have hQA := k.below hBw
          obtain ⟨b, o, hp, hc⟩ := hPA.pl (by omega)
          obtain ⟨c, r, hq, hd⟩ := hQA.pl (by omega)
          subst hp hq
          obtain ⟨c0, c1⟩ := hc i (by omega)
          obtain ⟨d0, d1⟩ := hd j (by omega)
          have hv := hPA.ev i hlt
          have hu := hQA.ev j hjm
          have j1 : (j : Int) < (m : Int) := by omega
          obtain ⟨t, ht⟩ : ∃ t, t = i + j := ⟨_, rfl⟩
          have hwt : IntKind.i64.wrap ((i : Int) + (j : Int)) = (t : Int) := by rw [IntKind.wrap_i64]; omega
          have htN : t < N := by have := HN.out; omega
          have HT : Hid (t = i + j) := ht
          obtain ⟨x0, x1⟩ := hR1.cell t (by omega)
          have HE : Hid (∀ t, t < N → RF (w.heap.size + 1) wr S (pj zs ys i j t) (ge us t)) := hev
          have hpb : Hid (((pj zs ys i (j + 1) t).natAbs : Int) < pd S) := by
            show _ < _
            rw [HS.out, pd_two]
            exact pj_bd HX.out HY.out i (j + 1) t (by omega)
          have hmu := rMul_e hv.drew hu.drew (by omega) (by omega)
          clear ht hev hc hd hPA hQA HJ
          go_wp2_with fail
          go_region_with (first
            | (go_at_call 51; go_fit hmu; rintro r v2 ⟨e1, rfl, hN1, hF1, hb2⟩; have hV2 := undrew hb2; have hR2 := hR1.below hV2 hR1.lt; obtain ⟨y0, y1⟩ := hR2.cell t (by omega); have had := rAdd_e ((HE.out t htN).1.below hV2) hN1 (by omega) (by omega))
            | (go_at_call 59; go_fit had; rintro r v3 ⟨e2, rfl, hN2, hF2, hb3⟩; have hR3 := hR2.below hb3 hR2.lt; obtain ⟨z0, z1⟩ := hR3.cell t (by omega); have f0 := hR3.frozen (t * 2); have f1 := hR3.frozen (t * 2 + 1)))
          all_goals
            have hstep := rrows_step (zs := zs) (ys := ys) (i := i) (j := j) hR1 hul HE.out hB1 hpb.out HT.out htN hs0 hV2 hb3 ⟨hN2, hF2⟩
            have HST := (show Hid _ from hstep)
            clear hstep x0 x1 y0 y1 c0 c1 d0 d1 hR1 hB1 HE hN1 hN2 hR2 hR3 hv hu hmu had
            go_wp2
            refine ⟨⟨j + 1, by omega, by go_num, HST.out⟩, by simp [intOf]; omega⟩
        · obtain rfl : j = m := by omega
          have HQ : Hid (PrR (ps zs ys (i + 1)) S w.heap.size N W0 wr) := by
            obtain ⟨us, hR, hul, hev, hB⟩ := HJ.out
            exact ⟨us, hR, hul, fun t ht => by rw [← pj_all, hyl]; exact hev t ht, hB⟩
          clear HJ hjm
          go_wp2
          refine ⟨⟨i + 1, by omega, by go_num, HQ.out⟩, by simp [intOf]; omega⟩
    · obtain rfl : i = n := by omega
      obtain ⟨us, hR, hul, hev, hB⟩ := H.out
      have hvl := length_mulz zs ys
      have hPR : PR wr S (some ⟨w.heap.size, 0, none⟩) N N us (mulz zs ys) := ⟨hul, by have := HN.out; omega, Nat.le_refl _, by unfold maxLen; omega, hR.pl, fun t ht => by
        rw [gx_mulz _ _ _ (by have := HN.out; omega), hzl]
        exact (hev t ht).1⟩
      have HB : Hid (Below w.heap.size w wr) := hW0.trans hB
      clear H hge hR hev hB
      go_wp2_with fail
      refine (rTrim_any S _ N N us (mulz zs ys) _ hPR (by omega)).mono ?_
      rintro e w1 ⟨rfl, hb1⟩
      have HP : Hid (PR wr S (some ⟨w.heap.size, 0, none⟩) N N us (mulz zs ys)) := hPR
      clear hPR
      go_wp2
      go_ret
      have htl := tlen_le (mulz zs ys)
      have hvk := HP.out.zl
      have hT := (HP.out.below hb1).take (tlen (mulz zs ys)) (tlen (mulz zs ys)) (by omega) (Nat.le_refl _) (by omega)
      exact ⟨_, tlen (mulz zs ys), us.take (tlen (mulz zs ys)), rfl, hT, (fun a ha => by cases ha; exact Nat.le_refl _), tlen_tr _, bnext' HB.out hb1⟩
end Go.Proofs.YtgecfnoecmjacaaGreatDoor
/-
  ashlarref3.Mul.
-/
namespace Go.Proofs.YtgecfnoecmjacaaGreatDoor
open Go.RowKit
set_option linter.unusedVariables false
set_option linter.unusedSimpArgs false

theorem pr_nil (w : World) (N : Nat) : PR w N none 0 0 [] [] := ⟨rfl, rfl, Nat.le_refl _, Nat.zero_le _, PL.nil, fun j hj => by omega⟩
set_option maxHeartbeats 2000000 in
set_option maxRecDepth 100000 in
theorem rpMul_nil (w : World) (N : Nat) (p q : Option Addr) (n m nc mc : Nat) (hn : n ≤ 1000000) (hm : m ≤ 1000000) (h : n = 0 ∨ m = 0) :
    Calls Tryz.prog 20 #[.slice p n nc, .slice q m mc] w (PrP [] N w) := by
  by_cases h0 : n = 0
  · subst h0
    go_enter Tryz.func20, Tryz.ntmps20
    go_wp2
    go_ret
    exact ⟨none, 0, [], rfl, pr_nil _ _, (fun a ha => by cases ha), rfl, Below.refl _ _⟩
  · have h1 : m = 0 := by omega
    subst h1
    have g1 : ((n : Int) == 0) = false := by rw [beq_eq_false_iff_ne]; omega
    have g3 : ¬ (n : Int) = 0 := by omega
    go_enter Tryz.func20, Tryz.ntmps20
    go_wp2
    go_ret
    exact ⟨none, 0, [], rfl, pr_nil _ _, (fun a ha => by cases ha), rfl, Below.refl _ _⟩
/-- ashlarref3.Mul of two normal polynomials. -/
theorem rpMul_any {w : World} {A B K L : Nat} {p q : Option Addr} {n nc m mc : Nat} {es fs : List Ent} {zs ys : List Int} (h : PR w A p n nc es zs) (k : PR w B q m mc fs ys) (hz : tlen zs = zs.length) (hy : tlen ys = ys.length) (hn : n ≤ 1000) (hm : m ≤ 1000) (hA : A ≤ 200) (hB : B ≤ 200) (hX : ∀ i, ((gx zs i).natAbs : Int) < pw K) (hY : ∀ i, ((gx ys i).natAbs : Int) < pw L) (hKL : K + L ≤ 100) :
    Calls Tryz.prog 20 #[.slice p n nc, .slice q m mc] w (PrP (mulp zs ys) (2 * (K + L + 1)) w) := by
  rw [mulp, h.zl, k.zl]
  by_cases h0 : n = 0 ∨ m = 0
  · rw [if_pos h0]
    exact rpMul_nil w _ p q n m nc mc (by omega) (by omega) h0
  · rw [if_neg h0]
    have hzl := h.zl
    have hyl := k.zl
    have := rpMul_some h k hn hm (by omega) (by omega) hA hB hX hY hKL
    rwa [tr_of_tlen (by rw [mulz_top hz hy (by omega) (by omega), length_mulz])] at this
end Go.Proofs.YtgecfnoecmjacaaGreatDoor
/-
  ashlarlaw3.Cut, few.
-/
namespace Go.Proofs.YtgecfnoecmjacaaGreatDoor
open Go.RowKit
set_option linter.unusedVariables false
set_option linter.unusedSimpArgs false

theorem info_apiI : (Tryz.prog.info? 26).map (fun i => (i.zero, i.size, i.bytes)) = some (some (.agg #[.bool false, .slice none 0 0]), 2, 32) := by kernel_rfl
/-- What Cut of a polynomial answers. -/
def CutP (n E L : Nat) (w : World) (e : Ending) (w' : World) : Prop :=
  ∃ q m mc fs zs, e = .returned (.slice q m mc) ∧ PA w' L q m mc fs zs ∧ m = min n E ∧ Go.Proofs.YtgecfnoecmjacaaGreatDoor.From w.heap.size q ∧ (∀ j, j < m → 0 < (ge fs j).n → Go.Proofs.YtgecfnoecmjacaaGreatDoor.From w.heap.size (ge fs j).p) ∧ Below w.heap.size w w'
theorem ai_take {w : World} {p : Option Addr} {n nc : Nat} {xs : List Int} (h : AI w p n nc xs) (m : Nat) (hm : m ≤ n) : AI w p m nc (xs.take m) :=
  ⟨by have := h.len; simp; omega, by have := h.cap; omega, h.bnd, by have := h.sml; omega, h.rd.take m, u32_take h.u m⟩
set_option maxHeartbeats 4000000 in
set_option maxRecDepth 100000 in
/-- ashlarlaw3.Cut. -/
theorem Cut3_any {w : World} {p : Option Addr} {n nc : Nat} {es0 : List Ent} (h : PZ w p n nc es0) (E L : Nat) (hE : E ≤ 1000) (hL : L ≤ 24) :
    Calls Tryz.prog 35 #[.slice p n nc, .int .i64 E, .int .i64 L] w (CutP n E L w) := by
  obtain ⟨i0, hi, hzz⟩ := Option.map_eq_some_iff.1 info_apiI
  simp only [Prod.mk.injEq] at hzz
  obtain ⟨hz0, hz1, hz2⟩ := hzz
  have HI : Hid (Tryz.prog.info? 26 = some i0 ∧ i0.zero = some (.agg #[.bool false, .slice none 0 0]) ∧ i0.size = 2 ∧ i0.bytes = 32) := ⟨hi, hz0, hz1, hz2⟩
  have HX : Hid (PZ w p n nc es0) := h
  have hnm : n ≤ 9223372036854775807 := by have h1 := h.cap; have h2 := h.bnd; unfold maxLen at h2; omega
  clear h hi hz0 hz1 hz2
  go_enter Tryz.func35, Tryz.ntmps35
  go_wp2_with fail
  go_loopw [7, 8, 9] (fun qv iv av wr => ∃ (k : Nat) (es : List Ent) (zs : List Int), k ≤ min n E ∧ iv = .int .i64 k ∧ Hid (es.length = k ∧ LG w.heap.size 26 (fun w z e => EV w L z e) wr qv es zs ∧ (∀ j, j < k → 0 < (ge es j).n → Go.Proofs.YtgecfnoecmjacaaGreatDoor.From w.heap.size (ge es j).p) ∧ Below w.heap.size w wr)) (fun _ iv _ _ => min n E - (intOf iv).toNat)
  case atStart => exact ⟨0, [], [], Nat.zero_le _, by go_num, rfl, LG.nil _ _ _ _, fun j hj => absurd hj (by omega), Below.refl _ _⟩
  case round =>
    obtain ⟨k, es, zs, hk, rfl, H⟩ := hrel
    rcases Nat.lt_or_ge k (min n E) with hlt | hge
    · obtain ⟨hel, hLR, hfr, hB⟩ := H.out
      have hPA := HX.out.below hB
      obtain ⟨b, o, hp, hc⟩ := hPA.pl (by rw [hPA.el]; omega)
      subst hp
      obtain ⟨c0, c1⟩ := hc k (by rw [hPA.el]; omega)
      obtain ⟨xs, r1, r2, r3, r4, r5, r6⟩ := hPA.ev k (by omega)
      have i1 : (k : Int) < (n : Int) := by omega
      have i2 : (k : Int) < (E : Int) := by omega
      clear hel hLR hB hc hPA hfr
      go_wp2_with fail
      refine (Cut_any (ge es0 k).s (ge es0 k).p (ge es0 k).n (ge es0 k).c xs wr r1 r2 r3 r4 r5 r6).mono ?_
      rintro e w1 ⟨p1, n1, c1', rfl, hA1, hn1, hF1, hb1⟩
      generalize (ge es0 k).s = s1
      clear c0 c1 r1 r2 r3 r4 r5 r6
      have hcap1 := hA1.cap
      have hbnd1 := hA1.bnd
      unfold maxLen at hbnd1
      obtain ⟨hi, hz0, hz1, hz2⟩ := HI.out
      rcases Nat.lt_or_ge L n1 with hgt | hle
      · have j1 : (L : Int) < (n1 : Int) := by omega
        have j2 : (L : Int) ≤ (c1' : Int) := by omega
        have HA1 : Hid (AI w1 p1 L c1' ((xs.take 24).take L)) := ai_take hA1 L (by omega)
        clear hA1
        go_upto_region 8 with fail
        have hX2 : Bx (w1.alloc (.cells #[.bool s1, .slice p1 L c1'] 26)) w1.heap.size (.bool s1) (.slice p1 L c1') := Bx.new _ _ _ rfl
        have hal := bel_al (o := .cells #[.bool s1, .slice p1 L c1'] 26) (Below.refl w1.heap.size w1)
        have hb2 := bnext' hb1 hal
        have hA2 := HA1.out.below hal
        clear HA1 hal
        generalize w1.alloc (.cells #[.bool s1, .slice p1 L c1'] 26) = W2 at *
        obtain ⟨q0, q1, -, -⟩ := hX2
        have HE : Hid (EV W2 L (ival s1 ((xs.take 24).take L)) ⟨s1, p1, L, c1'⟩) := ⟨((xs.take 24).take L), hA2, rfl, by show L ≤ L; omega⟩
        have hown0 := own_below H.out.2.1.own hb2
        rw [H.out.1] at hown0
        have HO : Hid (W2.ownsRow w.heap.size 26 2 u7 k (fl es)) := hown0
        have hsz : w.heap.size ≤ W2.heap.size := Nat.le_trans H.out.2.2.2.size hb2.size
        have HF : Hid (Go.Proofs.YtgecfnoecmjacaaGreatDoor.From wr.heap.size p1) := hF1
        clear hown0 hA2 hF1 hb1
        go_wp2_with (refine wpList_append_lies _ rfl _ _ 23 rfl w.heap.size 26 i0 (.agg #[.bool false, .slice none 0 0]) 2 32 Tryz.underlying23 hi hz0 hz1 hz2 rfl (by decide) u7 k (fl es) rfl (HO.out.alloc _) ⟨W2.heap.size, 0, none⟩ 1 1 [.bool s1, .slice p1 L c1'] rfl rfl ?_ (fun x hx => by simp at hx; rcases hx with rfl | rfl <;> rfl) (by decide) (by unfold maxLen; omega) (by omega) (by simp; omega) _ rfl ?_; exact World.news_of_block (heap_alloc_new W2 _); intro g cap w3 hown3 hgrow3 hat3 hlt3; have hB3 : Below w.heap.size w w3 := ((bnext' H.out.2.2.2 hb2).alloc hsz _).grown hgrow3 (by simp; omega) (fun q hq => (HO.out.lt q hq).1); have HA : Hid (LG w.heap.size 26 (fun w z e => EV w L z e) w3 (.slice (some ⟨g, 0, none⟩) (k + 1) cap) (es ++ [⟨s1, p1, L, c1'⟩]) (zs ++ [ival s1 ((xs.take 24).take L)])) := lg_app (lasts_EV _) H.out.1 H.out.2.1 hb2 HE.out HF.out hown3 hgrow3 hat3; clear hown3 hgrow3 hat3)
        refine ⟨⟨k + 1, es ++ [⟨s1, p1, L, c1'⟩], zs ++ [ival s1 ((xs.take 24).take L)], by omega, by go_num, by have := H.out.1; simp; omega, HA.out, fun j hj h0 => ?_, hB3⟩, by simp [intOf]; omega⟩
        have hel := H.out.1
        rcases Nat.lt_or_ge j k with h | h
        · rw [ge_append_left _ _ _ (by omega)] at h0 ⊢
          exact H.out.2.2.1 j h h0
        · obtain rfl : j = es.length := by omega
          rw [ge_snoc]
          exact fun a ha => Nat.le_trans H.out.2.2.2.size (HF.out a ha)
      · have j1 : ¬ (L : Int) < (n1 : Int) := by omega
        have HA1 : Hid (AI w1 p1 n1 c1' (xs.take 24)) := hA1
        clear hA1
        go_upto_region 8 with fail
        have hX2 : Bx (w1.alloc (.cells #[.bool s1, .slice p1 n1 c1'] 26)) w1.heap.size (.bool s1) (.slice p1 n1 c1') := Bx.new _ _ _ rfl
        have hal := bel_al (o := .cells #[.bool s1, .slice p1 n1 c1'] 26) (Below.refl w1.heap.size w1)
        have hb2 := bnext' hb1 hal
        have hA2 := HA1.out.below hal
        clear HA1 hal
        generalize w1.alloc (.cells #[.bool s1, .slice p1 n1 c1'] 26) = W2 at *
        obtain ⟨q0, q1, -, -⟩ := hX2
        have HE : Hid (EV W2 L (ival s1 (xs.take 24)) ⟨s1, p1, n1, c1'⟩) := ⟨(xs.take 24), hA2, rfl, by show n1 ≤ L; omega⟩
        have hown0 := own_below H.out.2.1.own hb2
        rw [H.out.1] at hown0
        have HO : Hid (W2.ownsRow w.heap.size 26 2 u7 k (fl es)) := hown0
        have hsz : w.heap.size ≤ W2.heap.size := Nat.le_trans H.out.2.2.2.size hb2.size
        have HF : Hid (Go.Proofs.YtgecfnoecmjacaaGreatDoor.From wr.heap.size p1) := hF1
        clear hown0 hA2 hF1 hb1
        go_wp2_with (refine wpList_append_lies _ rfl _ _ 23 rfl w.heap.size 26 i0 (.agg #[.bool false, .slice none 0 0]) 2 32 Tryz.underlying23 hi hz0 hz1 hz2 rfl (by decide) u7 k (fl es) rfl (HO.out.alloc _) ⟨W2.heap.size, 0, none⟩ 1 1 [.bool s1, .slice p1 n1 c1'] rfl rfl ?_ (fun x hx => by simp at hx; rcases hx with rfl | rfl <;> rfl) (by decide) (by unfold maxLen; omega) (by omega) (by simp; omega) _ rfl ?_; exact World.news_of_block (heap_alloc_new W2 _); intro g cap w3 hown3 hgrow3 hat3 hlt3; have hB3 : Below w.heap.size w w3 := ((bnext' H.out.2.2.2 hb2).alloc hsz _).grown hgrow3 (by simp; omega) (fun q hq => (HO.out.lt q hq).1); have HA : Hid (LG w.heap.size 26 (fun w z e => EV w L z e) w3 (.slice (some ⟨g, 0, none⟩) (k + 1) cap) (es ++ [⟨s1, p1, n1, c1'⟩]) (zs ++ [ival s1 (xs.take 24)])) := lg_app (lasts_EV _) H.out.1 H.out.2.1 hb2 HE.out HF.out hown3 hgrow3 hat3; clear hown3 hgrow3 hat3)
        refine ⟨⟨k + 1, es ++ [⟨s1, p1, n1, c1'⟩], zs ++ [ival s1 (xs.take 24)], by omega, by go_num, by have := H.out.1; simp; omega, HA.out, fun j hj h0 => ?_, hB3⟩, by simp [intOf]; omega⟩
        have hel := H.out.1
        rcases Nat.lt_or_ge j k with h | h
        · rw [ge_append_left _ _ _ (by omega)] at h0 ⊢
          exact H.out.2.2.1 j h h0
        · obtain rfl : j = es.length := by omega
          rw [ge_snoc]
          exact fun a ha => Nat.le_trans H.out.2.2.2.size (HF.out a ha)
    · obtain rfl : k = min n E := by omega
      obtain ⟨hel, hLR, hfr, hB⟩ := H.out
      have hzl := hLR.zl
      obtain ⟨q, cap, hv, hc1, hc2, hPL, hF, hpn⟩ := hLR.pl
      have hev := hLR.ev
      subst hv
      rw [hel] at hev hc1 hzl ⊢
      have HR : Hid (CutP n E L w (.returned (.slice q (min n E : Nat) cap)) wr) := ⟨q, _, cap, es, zs, rfl, ⟨hel, hzl, hc1, hc2, hpn, hPL, hev⟩, rfl, hF, hfr, hB⟩
      have hcs : Hid (¬ (min n E : Nat) < n ∨ ((min n E : Nat) < n ∧ ¬ (min n E : Nat) < E)) := by show _ ∨ _; omega
      generalize min n E = m at *
      clear H hLR hev hPL hF hfr hB hge
      rcases hcs.out with h1 | ⟨h1, h2⟩
      · have i1 : ¬ (m : Int) < (n : Int) := by omega
        clear h1
        go_wp2
        go_ret
        exact HR.out
      · have i1 : (m : Int) < (n : Int) := by omega
        have i2 : ¬ (m : Int) < (E : Int) := by omega
        clear h1 h2
        go_wp2
        go_ret
        exact HR.out
set_option maxHeartbeats 1000000 in
/-- ashlarlaw3.few. -/
theorem few_any {w : World} {p : Option Addr} {n nc : Nat} {es0 : List Ent} (h : PZ w p n nc es0) :
    Calls Tryz.prog 10 #[.slice p n nc] w (CutP n 9 4 w) := by
  have hc := Cut3_any h 9 4 (by decide) (by decide)
  clear h
  go_enter Tryz.func10, Tryz.ntmps10
  go_wp2_with fail
  refine hc.mono ?_
  rintro e w1 ⟨q, m, mc, fs, zs, rfl, h1, h2, h3, h4, hb1⟩
  have HR : Hid (CutP n 9 4 w (.returned (.slice q m mc)) w1) := ⟨q, m, mc, fs, zs, rfl, h1, h2, h3, h4, hb1⟩
  clear hc h1 h2 h3 h4 hb1
  go_wp2
  go_ret
  exact HR.out
end Go.Proofs.YtgecfnoecmjacaaGreatDoor
