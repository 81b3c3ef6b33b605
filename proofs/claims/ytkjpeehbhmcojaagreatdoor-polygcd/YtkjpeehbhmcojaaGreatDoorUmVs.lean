/-
  upoly.product by rows, Mul of small polynomials.
-/
import Derived.Test.YtkjpeehbhmcojaaGreatDoorWiWjUl
import Derived.Test.YtkjpeehbhmcojaaGreatDoorDcUjLeUk
import Derived.Test.YtkjpeehbhmcojaaGreatDoorCyViDsAeVuWxUpUq
import Derived.Deep.DeepFit
namespace Go.Proofs.YtkjpeehbhmcojaaGreatDoor
open Go.RowKit
set_option linter.unusedVariables false
set_option linter.unusedSimpArgs false
set_option maxHeartbeats 8000000
def mulz (zs ys : List Int) : List Int := (List.range (zs.length + ys.length - 1)).map (ps zs ys zs.length)
theorem length_mulz (zs ys : List Int) : (mulz zs ys).length = zs.length + ys.length - 1 := by simp [mulz]
theorem gx_mulz (zs ys : List Int) (t : Nat) (h : t < zs.length + ys.length - 1) : gx (mulz zs ys) t = ps zs ys zs.length t := by
  rw [gx_mem _ _ (by rw [length_mulz]; exact h)]
  simp [mulz]
theorem ps_far (zs ys : List Int) (t : Nat) : ∀ i, i + ys.length ≤ t + 1 → ps zs ys i t = 0
  | 0, _ => rfl
  | i + 1, h => by
    rw [ps, ps_far zs ys t i (by omega), gx_past ys ys.length (Nat.le_refl _) (t - i) (by omega)]
    simp
theorem mulz_top {zs ys : List Int} (h1 : tlen zs = zs.length) (h2 : tlen ys = ys.length) (hz : 0 < zs.length) (hy : 0 < ys.length) : tlen (mulz zs ys) = zs.length + ys.length - 1 := by
  refine tlen_eq _ _ (fun j hj => gx_past _ _ (by rw [length_mulz]; exact Nat.le_refl _) j hj) (.inr ?_)
  rw [gx_mulz _ _ _ (by omega)]
  obtain ⟨a, ha⟩ : ∃ a, zs.length = a + 1 := ⟨zs.length - 1, by omega⟩
  rw [ha, ps, ps_far _ _ _ _ (by omega), if_pos (by omega)]
  have e1 := tlen_top zs (by omega)
  have e2 := tlen_top ys (by omega)
  rw [h1, ha] at e1
  rw [h2] at e2
  have e3 : a + 1 + ys.length - 1 - 1 - a = ys.length - 1 := by omega
  rw [e3]
  have e4 : a + 1 - 1 = a := by omega
  rw [e4] at e1
  rw [Int.zero_add]
  exact Int.mul_ne_zero e1 e2
set_option maxRecDepth 100000 in
theorem product_rows {B C : Nat} {w : World} {K L : Nat} {p q : Option Addr} {n m : Nat} {es fs : List Ent} {zs ys : List Int} (h : PB B w K p n es zs) (k : PB C w L q m fs ys) (hn : n ≤ 80) (hm : m ≤ 80) (hn1 : 1 ≤ n) (hm1 : 1 ≤ m) (hK : K < 80) (hL : L < 80) (hd : wd zs ys ≤ 80) (hk : wd zs ys * min n m ≤ 80)
    (hc : sl zs * sl ys + 80 * cnt zs * cnt ys ≤ wd zs ys * n * wd zs ys * m + 160 * (n + m)) :
    Calls Tryz.prog 49 #[.slice p n n, .slice q m m] w (PnP (mulz zs ys) (K + L + 1) w) := by
  have hd1 : 1 ≤ wd zs ys := by unfold wd; omega
  have hcI : (((sl zs * sl ys + 80 * cnt zs * cnt ys : Nat) : Int)) ≤ ((wd zs ys * n * wd zs ys * m + 160 * (n + m) : Nat) : Int) := by omega
  generalize hX : sl zs * sl ys + 80 * cnt zs * cnt ys = X at *
  generalize hY : wd zs ys * n * wd zs ys * m + 160 * (n + m) = Y at *
  have HX := (show Hid _ from hX)
  have HY := (show Hid _ from hY)
  clear hX hY
  have hpa := h.pa (by omega)
  have hqa := k.pa (by omega)
  have g1 : ((n : Int) == 0) = false := by rw [beq_eq_false_iff_ne]; omega
  have g2 : ((m : Int) == 0) = false := by rw [beq_eq_false_iff_ne]; omega
  have g3 : ¬ (n : Int) = 0 := by omega
  have g4 : ¬ (m : Int) = 0 := by omega
  go_enter Tryz.func49, Tryz.ntmps49
  go_wp2_with fail
  refine (digitWidth_any hpa hqa (by omega) (by omega) (by omega) (by omega)).mono ?_
  rintro e w1 ⟨rfl, hb1⟩
  have h1 := rowsCost_any (h.below hb1) (k.below hb1) (by omega) (by omega) (by omega) (by omega)
  rw [HX.out] at h1
  go_wp2_with fail
  refine h1.mono ?_
  rintro e w2 ⟨rfl, hb2⟩
  have h2 := packedCost_small n m (wd zs ys) w2 hn hm hd hd1 hk
  rw [HY.out] at h2
  clear h1
  go_wp2_with fail
  refine h2.mono ?_
  rintro e w3 ⟨rfl, hb3⟩
  have hb := bnext' (bnext' hb1 hb2) hb3
  clear h2
  go_wp2_with fail
  refine (rows_any (hpa.below hb) (hqa.below hb) (by omega) (by omega) hn1 hm1 hK hL).mono ?_
  rintro e w4 ⟨u, us, rfl, r1, r2, r3, r4, hb4⟩
  have hzl := h.zl
  have hyl := k.zl
  have HZ : Hid (tlen zs = n ∧ tlen ys = m) := ⟨h.nrm, k.nrm⟩
  clear hpa hqa
  go_wp2
  go_ret
  have hs := hb.size
  refine ⟨u, n + m - 1, us, rfl, ⟨r1, by rw [length_mulz, hzl, hyl], ?_, r2, fun a ha => Nat.le_trans hs (r3 a ha), fun t ht => ?_⟩, bnext' hb hb4⟩
  · rw [mulz_top (by rw [HZ.out.1, hzl]) (by rw [HZ.out.2, hyl]) (by omega) (by omega), hzl, hyl]
  · rw [gx_mulz _ _ _ (by rw [hzl, hyl]; exact ht), hzl]
    exact (r4 t ht).mono hs
theorem mk_rpoly (n : Nat) (h : n ≤ 1000000000) (w : World) : (Instr.makeSlice 27 (.int .i64 n) (.int .i64 n)).run Tryz.prog w =
    .ok (.slice (some ⟨w.heap.size, 0, none⟩) n n) (w.alloc (.cells (ca2 (ezs n)) 50)) := by
  have hi := info_ref
  cases hq : Tryz.prog.info? 50 with
  | none => rw [hq] at hi; cases hi
  | some i =>
    rw [hq] at hi
    simp only [Option.map_some, Option.some.injEq, Prod.mk.injEq] at hi
    obtain ⟨h1, h2, h3⟩ := hi
    have hr := run_make (P := Tryz.prog) w 27 50 i (.agg #[.bool false, .slice none 0 0]) Tryz.underlying27 hq h1 .i64 .i64 n n (by omega) (Int.le_refl _) (by rw [h3]; omega) (by omega)
    rw [Int.toNat_natCast, h2] at hr
    rw [hr]
    exact congrArg (fun c => Result.ok (Value.slice (some ⟨w.heap.size, 0, none⟩) n n) (w.alloc (.cells c 50))) (made_ez n)
def RF (B : Nat) (w : World) (N : Nat) (z : Int) (e : Ent) : Prop := RE w N z e ∧ Go.Proofs.YtkjpeehbhmcojaaGreatDoor.From B e.p
theorem RF.below {B : Nat} {w w' : World} {N : Nat} {z : Int} {e : Ent} (h : RF B w N z e) (hb : Below w.heap.size w w') : RF B w' N z e := ⟨h.1.below hb, h.2⟩
theorem RF.mono {B B' : Nat} {w : World} {N : Nat} {z : Int} {e : Ent} (h : RF B w N z e) (hB : B' ≤ B) : RF B' w N z e := ⟨h.1, fun a ha => Nat.le_trans hB (h.2 a ha)⟩
theorem RF.set2 {B : Nat} {w : World} {N : Nat} {z : Int} {e : Ent} {g o : Nat} (h : RF B w N z e) (hg : g < B) (u v : Value) : RF B ((w.setCell ⟨g, o, none⟩ u).setCell ⟨g, o + 1, none⟩ v) N z e :=
  ⟨h.1.set2 (fun _ a ha => by have := h.2 a ha; omega), h.2⟩
theorem RF.le {B : Nat} {w : World} {N M : Nat} {z : Int} {e : Ent} (h : RF B w N z e) (hz : (z.natAbs : Int) < pd M) : RF B w M z e := by
  obtain ⟨⟨⟨ds, h1, h2, h3⟩, h4⟩, h5⟩ := h
  exact ⟨⟨⟨ds, h1, h2, h1.fit (by rw [h2]; exact hz)⟩, h4⟩, h5⟩
theorem RF.ez (B : Nat) (w : World) (N : Nat) : RF B w N 0 ez := ⟨⟨⟨[], ⟨rfl, Rd.nil, fun j => by simp [gx], by decide, fun _ => rfl, Nat.zero_le _⟩, by decide, Nat.zero_le _⟩, rfl⟩, fun a ha => by cases ha⟩
def PrR (F : Nat → Int) (M g N : Nat) (W0 wr : World) : Prop :=
  ∃ es, Row2 wr g 50 es ∧ es.length = N ∧ (∀ t, t < N → RF (g + 1) wr M (F t) (ge es t)) ∧ Below g W0 wr
theorem rrows_step {w W0 W2 v2 v3 : World} {M M' N i j t : Nat} {zs ys : List Int} {us : List Ent} {e2 : Ent} (hR1 : Row2 W2 w.heap.size 50 us) (hul : us.length = N) (hev : ∀ t, t < N → RF (w.heap.size + 1) W2 M (pj zs ys i j t) (ge us t)) (hB1 : Below w.heap.size W0 W2)
    (hpb : ((pj zs ys i (j + 1) t).natAbs : Int) < pd M) (ht : t = i + j) (htN : t < N) (hs0 : w.heap.size + 1 ≤ W0.heap.size)
    (hV2 : Below W2.heap.size W2 v2) (hb3 : Below v2.heap.size v2 v3) (hN2 : RF v2.heap.size v3 M' (pj zs ys i j t + gx zs i * gx ys j) e2) :
    PrR (pj zs ys i (j + 1)) M w.heap.size N W0 ((v3.setCell ⟨w.heap.size, t * 2, none⟩ (.bool e2.s)).setCell ⟨w.heap.size, t * 2 + 1, none⟩ (.slice e2.p e2.n e2.c)) := by
  have hb := bnext' hV2 hb3
  have hR3 := hR1.below hb hR1.lt
  have hs1 := hB1.size
  have hs2 := hV2.size
  have hval : pj zs ys i j t + gx zs i * gx ys j = pj zs ys i (j + 1) t := by subst ht; exact (pj_succ_same zs ys i j).symm
  rw [hval] at hN2
  refine ⟨us.set t e2, hR3.set t e2 (by omega), by simpa using hul, fun t' ht' => ?_, ?_⟩
  · by_cases he : t' = t
    · subst he
      rw [ge_set_same _ _ _ (by omega)]
      exact ((hN2.le hpb).mono (by omega)).set2 (by omega) _ _
    · rw [ge_set_other _ _ _ _ he, pj_succ_other _ _ _ _ _ (by omega)]
      exact ((hev t' ht').below hb).set2 (by omega) _ _
  · exact ((hB1.trans (hb.mono (by omega))).setCell (p := ⟨w.heap.size, t * 2, none⟩) (Nat.le_refl _) _).setCell (p := ⟨w.heap.size, t * 2 + 1, none⟩) (Nat.le_refl _) _
set_option maxRecDepth 100000 in
theorem rpMul_somen {w : World} {A B K L : Nat} {p q : Option Addr} {n nc m mc : Nat} {es fs : List Ent} {zs ys : List Int} (h : PR w A p n nc es zs) (k : PR w B q m mc fs ys) (hn : n ≤ 1000) (hm : m ≤ 1000) (hn1 : 1 ≤ n) (hm1 : 1 ≤ m) (hA : A ≤ 200) (hB : B ≤ 200) (hX : ∀ i, ((gx zs i).natAbs : Int) < pw K) (hY : ∀ i, ((gx ys i).natAbs : Int) < pw L) (hKL : K + L ≤ 100) :
    Calls Tryz.prog 10 #[.slice p n nc, .slice q m mc] w (PrF (tr (mulz zs ys)) (2 * (K + L + 1)) w) := by
  have hel := h.el
  have hfl := k.el
  have hzl := h.zl
  have hyl := k.zl
  obtain ⟨N, hN⟩ : ∃ N, N = n + m - 1 := ⟨_, rfl⟩
  have hNI : (n : Int) + (m : Int) - 1 = (N : Int) := by omega
  have w1 : IntKind.i64.wrap ((n : Int) + (m : Int)) = (n : Int) + (m : Int) := by rw [IntKind.wrap_i64]; omega
  have w2 : IntKind.i64.wrap (N : Int) = (N : Int) := by rw [IntKind.wrap_i64]; omega
  have g1 : ((n : Int) == 0) = false := by rw [beq_eq_false_iff_ne]; omega
  have g2 : ((m : Int) == 0) = false := by rw [beq_eq_false_iff_ne]; omega
  have g3 : ¬ (n : Int) = 0 := by omega
  have g4 : ¬ (m : Int) = 0 := by omega
  have HN : Hid (N = n + m - 1) := hN
  have hN3 : N ≤ 2000 := by omega
  obtain ⟨S, hS⟩ : ∃ S, S = 2 * (K + L + 1) := ⟨_, rfl⟩
  rw [← hS]
  have HS : Hid (S = 2 * (K + L + 1)) := hS
  have hS2 : S ≤ 202 := by omega
  clear hN hS
  have hmk := mk_rpoly N (by omega)
  have HX := (show Hid (∀ i, ((gx zs i).natAbs : Int) < pw K) from hX)
  have HY := (show Hid (∀ i, ((gx ys i).natAbs : Int) < pw L) from hY)
  clear hX hY
  go_enter Tryz.func10, Tryz.ntmps10
  go_wp2_with fail
  have hR0 := Row2.new w 50 (ezs N)
  have hW0 : Below w.heap.size w (w.alloc (.cells (ca2 (ezs N)) 50)) := (Below.refl _ _).alloc (Nat.le_refl _) _
  have hs0 : w.heap.size + 1 ≤ (w.alloc (.cells (ca2 (ezs N)) 50)).heap.size := by simp
  generalize w.alloc (.cells (ca2 (ezs N)) 50) = W0 at *
  clear hmk
  go_loopw [6, 7] (fun iv jv wr => ∃ i : Nat, i ≤ n ∧ iv = .int .i64 i ∧ Hid (PrR (ps zs ys i) S w.heap.size N W0 wr)) (fun iv _ _ => n - (intOf iv).toNat)
  case atStart => exact ⟨0, Nat.zero_le _, by go_num, ezs N, hR0, length_ezs N, fun t ht => by rw [ge_ezs]; exact RF.ez _ _ _, Below.refl _ _⟩
  case round =>
    obtain ⟨i, hi, rfl, H⟩ := hrel
    rcases Nat.lt_or_ge i n with hlt | hge
    · have i1 : (i : Int) < (n : Int) := by omega
      go_wp2_with fail
      go_loopw [7] (fun jv w3 => ∃ j : Nat, j ≤ m ∧ jv = .int .i64 j ∧ Hid (PrR (pj zs ys i j) S w.heap.size N W0 w3)) (fun jv _ => m - (intOf jv).toNat)
      case atStart =>
        obtain ⟨es', hR, hel', hev, hB⟩ := H.out
        exact ⟨0, Nat.zero_le _, by go_num, es', hR, hel', fun t ht => by rw [pj_zero]; exact hev t ht, hB⟩
      case round =>
        obtain ⟨j, hj, rfl, HJ⟩ := hrel
        rcases Nat.lt_or_ge j m with hjm | hjm
        · obtain ⟨us, hR1, hul, hev, hB1⟩ := HJ.out
          have hBw : Below w.heap.size w wr := hW0.trans hB1
          have hPA := h.below hBw
          have hQA := k.below hBw
          obtain ⟨b, o, hp, hc⟩ := hPA.pl (by omega)
          obtain ⟨c, r, hq, hd⟩ := hQA.pl (by omega)
          subst hp hq
          obtain ⟨c0, c1⟩ := hc i (by omega)
          obtain ⟨d0, d1⟩ := hd j (by omega)
          have hv := hPA.ev i hlt
          have hu := hQA.ev j hjm
          have j1 : (j : Int) < (m : Int) := by omega
          obtain ⟨t, ht⟩ : ∃ t, t = i + j := ⟨_, rfl⟩
          have hwt : IntKind.i64.wrap ((i : Int) + (j : Int)) = (t : Int) := by rw [IntKind.wrap_i64]; omega
          have htN : t < N := by have := HN.out; omega
          have HT : Hid (t = i + j) := ht
          obtain ⟨x0, x1⟩ := hR1.cell t (by omega)
          have HE : Hid (∀ t, t < N → RF (w.heap.size + 1) wr S (pj zs ys i j t) (ge us t)) := hev
          have hpb : Hid (((pj zs ys i (j + 1) t).natAbs : Int) < pd S) := by
            show _ < _
            rw [HS.out, pd_two]
            exact pj_bd HX.out HY.out i (j + 1) t (by omega)
          have hmu := rMul_e hv.drew hu.drew (by omega) (by omega)
          clear ht hev hc hd hPA hQA HJ
          go_wp2_with fail
          go_region_with (first
            | (go_at_call 29; go_fit hmu; rintro r v2 ⟨e1, rfl, hN1, hF1, hb2⟩; have hV2 := undrew hb2; have hR2 := hR1.below hV2 hR1.lt; obtain ⟨y0, y1⟩ := hR2.cell t (by omega); have had := rAdd_e ((HE.out t htN).1.below hV2) hN1 (by omega) (by omega))
            | (go_at_call 28; go_fit had; rintro r v3 ⟨e2, rfl, hN2, hF2, hb3⟩; have hR3 := hR2.below hb3 hR2.lt; obtain ⟨z0, z1⟩ := hR3.cell t (by omega); have f0 := hR3.frozen (t * 2); have f1 := hR3.frozen (t * 2 + 1)))
          all_goals
            have hstep := rrows_step (zs := zs) (ys := ys) (i := i) (j := j) hR1 hul HE.out hB1 hpb.out HT.out htN hs0 hV2 hb3 ⟨hN2, hF2⟩
            have HST := (show Hid _ from hstep)
            clear hstep x0 x1 y0 y1 c0 c1 d0 d1 hR1 hB1 HE hN1 hN2 hR2 hR3 hv hu hmu had
            go_wp2
            refine ⟨⟨j + 1, by omega, by go_num, HST.out⟩, by simp [intOf]; omega⟩
        · obtain rfl : j = m := by omega
          have HQ : Hid (PrR (ps zs ys (i + 1)) S w.heap.size N W0 wr) := by
            obtain ⟨us, hR, hul, hev, hB⟩ := HJ.out
            exact ⟨us, hR, hul, fun t ht => by rw [← pj_all, hyl]; exact hev t ht, hB⟩
          clear HJ hjm
          go_wp2
          refine ⟨⟨i + 1, by omega, by go_num, HQ.out⟩, by simp [intOf]; omega⟩
    · obtain rfl : i = n := by omega
      obtain ⟨us, hR, hul, hev, hB⟩ := H.out
      have hvl := length_mulz zs ys
      have hPR : PR wr S (some ⟨w.heap.size, 0, none⟩) N N us (mulz zs ys) := ⟨hul, by have := HN.out; omega, Nat.le_refl _, by unfold maxLen; omega, hR.pl, fun t ht => by
        rw [gx_mulz _ _ _ (by have := HN.out; omega), hzl]
        exact (hev t ht).1⟩
      have HB : Hid (Below w.heap.size w wr) := hW0.trans hB
      have HEV : Hid (∀ t, t < N → Go.Proofs.YtkjpeehbhmcojaaGreatDoor.From w.heap.size (ge us t).p) := fun t ht a ha => Nat.le_trans (Nat.le_succ _) ((hev t ht).2 a ha)
      clear H hge hR hev hB
      go_wp2_with fail
      refine (rTrim_any S _ N N us (mulz zs ys) _ hPR (by omega)).mono ?_
      rintro e w1 ⟨rfl, hb1⟩
      have HP : Hid (PR wr S (some ⟨w.heap.size, 0, none⟩) N N us (mulz zs ys)) := hPR
      clear hPR
      go_wp2
      go_ret
      have htl := tlen_le (mulz zs ys)
      have hvk := HP.out.zl
      have hT := (HP.out.below hb1).take (tlen (mulz zs ys)) (tlen (mulz zs ys)) (by omega) (Nat.le_refl _) (by omega)
      refine ⟨_, tlen (mulz zs ys), us.take (tlen (mulz zs ys)), rfl, hT, (fun a ha => by cases ha; exact Nat.le_refl _), tlen_tr _, fun j hj h0 => ?_, bnext' HB.out hb1⟩
      rw [ge_take _ _ _ hj]
      exact HEV.out j (by omega)
end Go.Proofs.YtkjpeehbhmcojaaGreatDoor
