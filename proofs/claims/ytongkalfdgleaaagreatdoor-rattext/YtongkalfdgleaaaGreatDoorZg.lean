/-
  rat.combine, Add, Sub.
-/
import Derived.Test.YtongkalfdgleaaaGreatDoorZfCyCz
import Derived.Test.YtongkalfdgleaaaGreatDoorLjOi
namespace Go.Proofs.YtongkalfdgleaaaGreatDoor
open Go.RowKit
set_option linter.unusedVariables false
set_option linter.unusedSimpArgs false

theorem NI.abs_lt {B : Nat} {w : World} {s : Bool} {p : Option Addr} {n : Nat} {xs : List Int} {z : Int} (h : NI B w s p n xs z) {k : Nat} (hk : n ≤ k) : (z.natAbs : Int) < pw k := by
  have h1 := val_nonneg h.u
  have h2 := val_lt_tlen h.u
  rw [h.nrm] at h2
  have h3 := pw_mono hk
  rw [← h.v, ival]
  split <;> omega
theorem sum_bd {z x y : Int} {k : Nat} (h : z.natAbs ≤ x.natAbs + y.natAbs) (hx : (x.natAbs : Int) < pw k) (hy : (y.natAbs : Int) < pw k) : (z.natAbs : Int) < pw (k + 1) := by
  rw [pw_succ]
  have := pw_pos k
  omega
set_option maxRecDepth 100000 in
set_option maxHeartbeats 4000000 in
/-- rat.combine. -/
theorem combine_any (sa ta sb tb : Bool) (pa qa pb qb : Option Addr) (na nac ma mac nb nbc mb mbc : Nat) (xa ya xb yb : List Int) (w : World) (hA : AI w pa na nac xa) (hA' : AI w qa ma mac ya) (hB : AI w pb nb nbc xb) (hB' : AI w qb mb mbc yb) (Ka Kb : Nat) (hKa : 1 ≤ Ka) (hKb : 1 ≤ Kb) (hK : Ka + Kb + 2 ≤ 150) (la : na ≤ Ka) (la' : ma ≤ Ka) (lb : nb ≤ Kb) (lb' : mb ≤ Kb) (J : Nat) (hE : ∀ args w', Sem.run Tryz.prog (callFunc J args) w' = .ok (.enter J args) w') (op : Int → Int → Int) (hop : ∀ x y, ((op x y).natAbs) ≤ x.natAbs + y.natAbs) (hJ : ∀ (s t : Bool) (p q : Option Addr) (n m : Nat) (xs ys : List Int) (x y : Int) (B : Nat) (w' : World), n ≤ 150 → m ≤ 150 → NI B w' s p n xs x → NI B w' t q m ys y → Calls Tryz.prog J #[.agg #[.bool s, .slice p n n], .agg #[.bool t, .slice q m m]] w' (fun e w'' => ∃ s' p' n' zs, e = .returned (.agg #[.bool s', .slice p' n' n']) ∧ NI w'.heap.size w'' s' p' n' zs (op x y) ∧ Below w'.heap.size w' w'')) (Z : Rat) (hZ : ∀ a b c d : Int, 0 < b → 0 < d → Rat.divInt a b = Rat.divInt (ival sa xa) (ival ta ya) → Rat.divInt c d = Rat.divInt (ival sb xb) (ival tb yb) → Rat.divInt (op (a * d) (c * b)) (b * d) = Z) :
    Calls Tryz.prog 39 #[.agg #[.bool sa, .slice pa na nac, .bool ta, .slice qa ma mac], .agg #[.bool sb, .slice pb nb nbc, .bool tb, .slice qb mb mbc], .func (.func J) #[] #[]] w (NrPost Z w) := by
  have HE := (show Hid _ from hE)
  have HOP := (show Hid _ from hop)
  have HJ := (show Hid _ from hJ)
  have HZ := (show Hid _ from hZ)
  clear hop hJ hZ hE
  generalize hQa : Rat.divInt (ival sa xa) (ival ta ya) = Qa
  generalize hQb : Rat.divInt (ival sb xb) (ival tb yb) = Qb
  have HQa : Hid (Rat.divInt (ival sa xa) (ival ta ya) = Qa) := hQa
  have HQb : Hid (Rat.divInt (ival sb xb) (ival tb yb) = Qb) := hQb
  clear hQa hQb
  go_enter Tryz.func39, Tryz.ntmps39
  go_wp2_with fail
  have hA0 : Bq (((w.alloc (.cells #[.bool sa, .slice pa na nac, .bool ta, .slice qa ma mac] 26)).alloc (.cells #[.bool sb, .slice pb nb nbc, .bool tb, .slice qb mb mbc] 26)).alloc (.cells #[.bool false, .slice none 0 0, .bool false, .slice none 0 0] 26)) w.heap.size (.bool sa) (.slice pa na nac) (.bool ta) (.slice qa ma mac) := ((Bq.new _ _ _ _ _ rfl).alloc _).alloc _
  have hB0 : Bq (((w.alloc (.cells #[.bool sa, .slice pa na nac, .bool ta, .slice qa ma mac] 26)).alloc (.cells #[.bool sb, .slice pb nb nbc, .bool tb, .slice qb mb mbc] 26)).alloc (.cells #[.bool false, .slice none 0 0, .bool false, .slice none 0 0] 26)) (w.heap.size + 1) (.bool sb) (.slice pb nb nbc) (.bool tb) (.slice qb mb mbc) := (Bq.new _ _ _ _ _ (by simp)).alloc _
  have hR0 : Bq (((w.alloc (.cells #[.bool sa, .slice pa na nac, .bool ta, .slice qa ma mac] 26)).alloc (.cells #[.bool sb, .slice pb nb nbc, .bool tb, .slice qb mb mbc] 26)).alloc (.cells #[.bool false, .slice none 0 0, .bool false, .slice none 0 0] 26)) (w.heap.size + 1 + 1) (.bool false) (.slice none 0 0) (.bool false) (.slice none 0 0) := Bq.new _ _ _ _ _ (by simp)
  have hW : Below w.heap.size w (((w.alloc (.cells #[.bool sa, .slice pa na nac, .bool ta, .slice qa ma mac] 26)).alloc (.cells #[.bool sb, .slice pb nb nbc, .bool tb, .slice qb mb mbc] 26)).alloc (.cells #[.bool false, .slice none 0 0, .bool false, .slice none 0 0] 26)) := (((Below.refl _ _).alloc (Nat.le_refl _) _).alloc (by simp) _).alloc (by simp; omega) _
  generalize ((w.alloc (.cells #[.bool sa, .slice pa na nac, .bool ta, .slice qa ma mac] 26)).alloc (.cells #[.bool sb, .slice pb nb nbc, .bool tb, .slice qb mb mbc] 26)).alloc (.cells #[.bool false, .slice none 0 0, .bool false, .slice none 0 0] 26) = W at *
  go_cut [] (fun wc => ∃ sa' ta' sb' tb' pa' qa' pb' qb' na' nac' ma' mac' nb' nbc' mb' mbc' xa' ya' xb' yb', U2 w wc Ka Kb Qa Qb sa' ta' sb' tb' pa' qa' pb' qb' na' nac' ma' mac' nb' nbc' mb' mbc' xa' ya' xb' yb' ∧ Bq wc (w.heap.size + 1 + 1) (.bool false) (.slice none 0 0) (.bool false) (.slice none 0 0))
  case first =>
    have a0 := hA0.c0
    have a1 := hA0.c1
    have a2 := hA0.c2
    have a3 := hA0.c3
    have b0 := hB0.c0
    have b1 := hB0.c1
    have b2 := hB0.c2
    have b3 := hB0.c3
    go_region_with (first
      | (go_at_call_of 45 (Value.agg #[.bool sa, .slice pa na nac, .bool ta, .slice qa ma mac]); refine (upright_any sa ta pa qa na nac ma mac xa ya _ (hA.below hW).drew (hA'.below hW).drew Ka hKa la la').mono ?_; rintro e w1 ⟨sa', pa', na', nac', xa', ta', qa', ma', mac', ya', rfl, hX1, hX2, hp1, hv1, l1, l2, hof1, hb1⟩; have hA1 := hA0.later (undrew hb1); have hB1 := hB0.later (undrew hb1); have b10 := hB1.c0; have b11 := hB1.c1; have b12 := hB1.c2; have b13 := hB1.c3)
      | (go_at_call_of 45 (Value.agg #[.bool sb, .slice pb nb nbc, .bool tb, .slice qb mb mbc]); refine (upright_any sb tb pb qb nb nbc mb mbc xb yb _ ((hB.below hW).drew.below hb1) ((hB'.below hW).drew.below hb1) Kb hKb lb lb').mono ?_; rintro e w2 ⟨sb', pb', nb', nbc', xb', tb', qb', mb', mbc', yb', rfl, hY1, hY2, hp2, hv2, l3, l4, hof2, hb2⟩; have hA2 := hA1.later hb2; have hB2 := hB1.later hb2; obtain ⟨a20, a21, a22, a23, af0, af1, af2, af3⟩ := hA2; obtain ⟨b20, b21, b22, b23, bf0, bf1, bf2, bf3⟩ := hB2))
    all_goals (go_wp2_with fail; go_meet)
    all_goals
      have sA := hA0.lt
      have sB := hB0.lt
      have s1 : W.heap.size ≤ w1.heap.size := hb1.size
      have s2 := hb2.size
      have oa := hof1 w.heap.size sA (hA.off (Nat.le_refl _)) (hA'.off (Nat.le_refl _))
      have oa' := hof1 (w.heap.size + 1) sB (hA.off (Nat.le_succ _)) (hA'.off (Nat.le_succ _))
      have ob := hof2 w.heap.size (by omega) (hB.off (Nat.le_refl _)) (hB'.off (Nat.le_refl _))
      have ob' := hof2 (w.heap.size + 1) (by omega) (hB.off (Nat.le_succ _)) (hB'.off (Nat.le_succ _))
      refine ⟨sa', ta', sb', tb', pa', qa', pb', qb', na', nac', ma', mac', nb', nbc', mb', mbc', xa', ya', xb', yb', ⟨⟨?_, ?_, ?_, ?_, ?_, ?_, hp1, hp2, hv1.trans HQa.out, hv2.trans HQb.out, l1, l2, l3, l4, ?_⟩, ?_⟩⟩
      · exact Bq_oth (Bq_set ((hA0.later (undrew hb1)).later hb2)) (by omega)
      · exact Bq_set (Bq_oth ((hB0.later (undrew hb1)).later hb2) (by omega))
      · exact ((hX1.below hb2).set4 oa.1 _ _ _ _).set4 oa'.1 _ _ _ _
      · exact ((hX2.below hb2).set4 oa.2 _ _ _ _).set4 oa'.2 _ _ _ _
      · exact (hY1.set4 ob.1 _ _ _ _).set4 ob'.1 _ _ _ _
      · exact (hY2.set4 ob.2 _ _ _ _).set4 ob'.2 _ _ _ _
      · exact bset4 (bset4 (bnext' (bnext' hW (undrew hb1)) hb2) (by omega) _ _ _ _) (by omega) _ _ _ _
      · exact Bq_oth (Bq_oth ((hR0.later (undrew hb1)).later hb2) (by omega)) (by omega)
  case rest =>
    obtain ⟨sa', ta', sb', tb', pa', qa', pb', qb', na', nac', ma', mac', nb', nbc', mb', mbc', xa', ya', xb', yb', hU, hR⟩ := hcut
    clear hA0 hB0 hR0 hW la la' lb lb' hA hA' hB hB'
    have la := hU.la
    have la' := hU.la'
    have lb := hU.lb
    have lb' := hU.lb'
    have HVa : Hid (Rat.divInt (ival sa' xa') (ival ta' ya') = Qa ∧ 0 < ival ta' ya') := ⟨hU.va, hU.ap⟩
    have HVb : Hid (Rat.divInt (ival sb' xb') (ival tb' yb') = Qb ∧ 0 < ival tb' yb') := ⟨hU.vb, hU.bp⟩
    have a0 := hU.a.c0
    have a1 := hU.a.c1
    have a2 := hU.a.c2
    have a3 := hU.a.c3
    have b0 := hU.b.c0
    have b1 := hU.b.c1
    have b2 := hU.b.c2
    have b3 := hU.b.c3
    clear a0 a1 a2 a3 b0 b1 b2 b3
    go_upto_region 2 with fail
    go_cut [7] (fun xv w3 => ∃ (g : Nat) (s : Bool) (p : Option Addr) (n : Nat) (z : List Int), xv = .pointer (some ⟨g, 0, none⟩) ∧ U2 w w3 Ka Kb Qa Qb sa' ta' sb' tb' pa' qa' pb' qb' na' nac' ma' mac' nb' nbc' mb' mbc' xa' ya' xb' yb' ∧ Bq w3 (w.heap.size + 1 + 1) (.bool false) (.slice none 0 0) (.bool false) (.slice none 0 0) ∧ Bx w3 g (.bool s) (.slice p n n) ∧ NI wc.heap.size w3 s p n z (op (ival sa' xa' * ival tb' yb') (ival sb' xb' * ival ta' ya')) ∧ n ≤ Ka + Kb + 1 ∧ wc.heap.size ≤ g ∧ Below wc.heap.size wc w3)
    case first =>
      refine region_inv (by kernel_rfl) (fun listed a' w' => ∃ (m0 k1 l1 k2 l2 c1 k3 l3 k4 l4 c2 c3 a s : Bool) (mv f1 v1 f2 v2 f3 v3 f4 v4 r1 r2 r3 x : Value) (t17 : Bool) (p17 : Option Addr) (n17 : Nat) (z17 : List Int) (t27 : Bool) (p27 : Option Addr) (n27 : Nat) (z27 : List Int) (t37 : Bool) (p37 : Option Addr) (n37 : Nat) (z37 : List Int) (g : Nat), listed = #[m0, k1, l1, k2, l2, c1, k3, l3, k4, l4, c2, c3, a, s] ∧ a' = ({ tmps := ((.agg #[.bool sa, .slice pa na nac, .bool ta, .slice qa ma mac]) :: (.agg #[.bool sb, .slice pb nb nbc, .bool tb, .slice qb mb mbc]) :: (.func (.func J) #[] #[]) :: (.pointer (some ⟨w.heap.size, 0, none⟩)) :: (.pointer (some ⟨w.heap.size + 1, 0, none⟩)) :: (undef) :: (.pointer (some ⟨w.heap.size + 1 + 1, 0, none⟩)) :: (x) :: (u8) :: (u9) :: (u10) :: (u11) :: (mv) :: (f1) :: (v1) :: (f2) :: (v2) :: (r1) :: (f3) :: (v3) :: (f4) :: (v4) :: (r2) :: (r3) :: (u24) :: (u25) :: (u26) :: (u27) :: (u28) :: (u29) :: (u30) :: ([] : List Value)).toArray, defers := [] } : Act) ∧ (m0 = true → mv = .func (.func J) #[] #[]) ∧ (k1 = true → f1 = .pointer (some ⟨w.heap.size, 0, none⟩)) ∧ (l1 = true → v1 = .agg #[.bool sa', .slice pa' na' nac']) ∧ (k2 = true → f2 = .pointer (some ⟨w.heap.size + 1, 2, none⟩)) ∧ (l2 = true → v2 = .agg #[.bool tb', .slice qb' mb' mbc']) ∧ (k3 = true → f3 = .pointer (some ⟨w.heap.size + 1, 0, none⟩)) ∧ (l3 = true → v3 = .agg #[.bool sb', .slice pb' nb' nbc']) ∧ (k4 = true → f4 = .pointer (some ⟨w.heap.size, 2, none⟩)) ∧ (l4 = true → v4 = .agg #[.bool ta', .slice qa' ma' mac']) ∧ Hid (G7 wc w' (ival sa' xa' * ival tb' yb') (ival sb' xb' * ival ta' ya') (op (ival sa' xa' * ival tb' yb') (ival sb' xb' * ival ta' ya')) (Ka + Kb) (Ka + Kb) (Ka + Kb + 1) c1 c2 c3 a s r1 r2 r3 x t17 p17 n17 z17 t27 p27 n27 z27 t37 p37 n37 z37 g)) (by kernel_rfl) ?_ ?_ ?_
      · rintro listed a' w' ⟨m0, k1, l1, k2, l2, c1, k3, l3, k4, l4, c2, c3, a, s, mv, f1, v1, f2, v2, f3, v3, f4, v4, r1, r2, r3, x, t17, p17, n17, z17, t27, p27, n27, z27, t37, p37, n37, z37, g, rfl, rfl, hmv, hf1, hv1, hf2, hv2, hf3, hv3, hf4, hv4, H⟩ hall
        obtain rfl : m0 = true := by simpa using hall 0 (by decide)
        obtain rfl : k1 = true := by simpa using hall 1 (by decide)
        obtain rfl : l1 = true := by simpa using hall 2 (by decide)
        obtain rfl : k2 = true := by simpa using hall 3 (by decide)
        obtain rfl : l2 = true := by simpa using hall 4 (by decide)
        obtain rfl : c1 = true := by simpa using hall 5 (by decide)
        obtain rfl : k3 = true := by simpa using hall 6 (by decide)
        obtain rfl : l3 = true := by simpa using hall 7 (by decide)
        obtain rfl : k4 = true := by simpa using hall 8 (by decide)
        obtain rfl : l4 = true := by simpa using hall 9 (by decide)
        obtain rfl : c2 = true := by simpa using hall 10 (by decide)
        obtain rfl : c3 = true := by simpa using hall 11 (by decide)
        obtain rfl : a = true := by simpa using hall 12 (by decide)
        obtain rfl : s = true := by simpa using hall 13 (by decide)
        clear hall
        obtain ⟨rfl, x2, xu, xv, x3, x4⟩ := H.out.X rfl
        obtain ⟨rfl, m1, m2⟩ := H.out.M3 rfl
        have x5 := x4 rfl
        injection x5 with x5
        simp at x5
        obtain ⟨rfl, rfl⟩ := x5
        go_wp2_with fail
        go_meet
        exact ⟨_, _, _, _, _, rfl, hU.later H.out.bel, hR.later H.out.bel, x3, m1, m2, x2, H.out.bel⟩
      · rintro listed a' w' ⟨m0, k1, l1, k2, l2, c1, k3, l3, k4, l4, c2, c3, a, s, mv, f1, v1, f2, v2, f3, v3, f4, v4, r1, r2, r3, x, t17, p17, n17, z17, t27, p27, n27, z27, t37, p37, n37, z37, g, rfl, rfl, hmv, hf1, hv1, hf2, hv2, hf3, hv3, hf4, hv4, H⟩ i o hio h0 hd
        have hi : i < 14 := (Array.getElem?_eq_some_iff.1 hio).1
        rcases i with _ | _ | _ | _ | _ | _ | _ | _ | _ | _ | _ | _ | _ | _ | i
        · obtain rfl := (Option.some.inj hio)
          replace h0 : m0 = false := by simpa using h0
          clear hd
          refine wpOp_step rfl (fun K' hK0 => ?_)
          have hK := (show Hid _ from hK0)
          clear hK0
          go_wp2
          exact hK.out _ _ ⟨true, k1, l1, k2, l2, c1, k3, l3, k4, l4, c2, c3, a, s, .func (.func J) #[] #[], f1, v1, f2, v2, f3, v3, f4, v4, r1, r2, r3, x, t17, p17, n17, z17, t27, p27, n27, z27, t37, p37, n37, z37, g, rfl, rfl, fun _ => rfl, hf1, hv1, hf2, hv2, hf3, hv3, hf4, hv4, H.out⟩
        · obtain rfl := (Option.some.inj hio)
          replace h0 : k1 = false := by simpa using h0
          clear hd
          refine wpOp_step rfl (fun K' hK0 => ?_)
          have hK := (show Hid _ from hK0)
          clear hK0
          go_wp2
          exact hK.out _ _ ⟨m0, true, l1, k2, l2, c1, k3, l3, k4, l4, c2, c3, a, s, mv, .pointer (some ⟨w.heap.size, 0, none⟩), v1, f2, v2, f3, v3, f4, v4, r1, r2, r3, x, t17, p17, n17, z17, t27, p27, n27, z27, t37, p37, n37, z37, g, rfl, rfl, hmv, fun _ => rfl, hv1, hf2, hv2, hf3, hv3, hf4, hv4, H.out⟩
        · obtain rfl := (Option.some.inj hio)
          replace h0 : l1 = false := by simpa using h0
          have hd0 : k1 = true := by simpa [Region.binds] using hd ⟨1, .data⟩ (by simp)
          clear hd
          refine wpOp_step rfl (fun K' hK0 => ?_)
          have hK := (show Hid _ from hK0)
          clear hK0
          obtain rfl := hf1 hd0
          have hC := hU.later H.out.bel
          have z0 := hC.a.c0
          have z1 := hC.a.c1
          go_wp2
          exact hK.out _ _ ⟨m0, k1, true, k2, l2, c1, k3, l3, k4, l4, c2, c3, a, s, mv, _, .agg #[.bool sa', .slice pa' na' nac'], f2, v2, f3, v3, f4, v4, r1, r2, r3, x, t17, p17, n17, z17, t27, p27, n27, z27, t37, p37, n37, z37, g, rfl, rfl, hmv, fun _ => rfl, fun _ => rfl, hf2, hv2, hf3, hv3, hf4, hv4, H.out⟩
        · obtain rfl := (Option.some.inj hio)
          replace h0 : k2 = false := by simpa using h0
          clear hd
          refine wpOp_step rfl (fun K' hK0 => ?_)
          have hK := (show Hid _ from hK0)
          clear hK0
          go_wp2
          exact hK.out _ _ ⟨m0, k1, l1, true, l2, c1, k3, l3, k4, l4, c2, c3, a, s, mv, f1, v1, .pointer (some ⟨w.heap.size + 1, 2, none⟩), v2, f3, v3, f4, v4, r1, r2, r3, x, t17, p17, n17, z17, t27, p27, n27, z27, t37, p37, n37, z37, g, rfl, rfl, hmv, hf1, hv1, fun _ => rfl, hv2, hf3, hv3, hf4, hv4, H.out⟩
        · obtain rfl := (Option.some.inj hio)
          replace h0 : l2 = false := by simpa using h0
          have hd0 : k2 = true := by simpa [Region.binds] using hd ⟨3, .data⟩ (by simp)
          clear hd
          refine wpOp_step rfl (fun K' hK0 => ?_)
          have hK := (show Hid _ from hK0)
          clear hK0
          obtain rfl := hf2 hd0
          have hC := hU.later H.out.bel
          have z0 := hC.b.c2
          have z1 := hC.b.c3
          go_wp2
          exact hK.out _ _ ⟨m0, k1, l1, k2, true, c1, k3, l3, k4, l4, c2, c3, a, s, mv, f1, v1, _, .agg #[.bool tb', .slice qb' mb' mbc'], f3, v3, f4, v4, r1, r2, r3, x, t17, p17, n17, z17, t27, p27, n27, z27, t37, p37, n37, z37, g, rfl, rfl, hmv, hf1, hv1, fun _ => rfl, fun _ => rfl, hf3, hv3, hf4, hv4, H.out⟩
        · obtain rfl := (Option.some.inj hio)
          replace h0 : c1 = false := by simpa using h0
          have hd0 : l1 = true := by simpa [Region.binds] using hd ⟨2, .data⟩ (by simp)
          have hd1 : l2 = true := by simpa [Region.binds] using hd ⟨4, .data⟩ (by simp)
          clear hd
          refine wpOp_step rfl (fun K' hK0 => ?_)
          have hK := (show Hid _ from hK0)
          clear hK0
          obtain rfl := hv1 hd0
          obtain rfl := hv2 hd1
          have hC := hU.later H.out.bel
          have hfr := Mul_small sa' tb' pa' qb' na' nac' mb' mbc' xa' yb' w' hC.an hC.bd (by omega)
          go_wp2_with fail
          refine hfr.mono ?_
          rintro e w'' ⟨tt, pp, nn, zz, rfl, q1, q2, q3⟩
          have H2 := H.out.call1 q3 q1 (by omega)
          clear hfr
          go_wp2
          exact hK.out _ _ ⟨m0, k1, l1, k2, l2, true, k3, l3, k4, l4, c2, c3, a, s, mv, f1, _, f2, _, f3, v3, f4, v4, .agg #[.bool tt, .slice pp nn nn], r2, r3, x, tt, pp, nn, zz, t27, p27, n27, z27, t37, p37, n37, z37, g, rfl, rfl, hmv, hf1, fun _ => rfl, hf2, fun _ => rfl, hf3, hv3, hf4, hv4, H2⟩
        · obtain rfl := (Option.some.inj hio)
          replace h0 : k3 = false := by simpa using h0
          clear hd
          refine wpOp_step rfl (fun K' hK0 => ?_)
          have hK := (show Hid _ from hK0)
          clear hK0
          go_wp2
          exact hK.out _ _ ⟨m0, k1, l1, k2, l2, c1, true, l3, k4, l4, c2, c3, a, s, mv, f1, v1, f2, v2, .pointer (some ⟨w.heap.size + 1, 0, none⟩), v3, f4, v4, r1, r2, r3, x, t17, p17, n17, z17, t27, p27, n27, z27, t37, p37, n37, z37, g, rfl, rfl, hmv, hf1, hv1, hf2, hv2, fun _ => rfl, hv3, hf4, hv4, H.out⟩
        · obtain rfl := (Option.some.inj hio)
          replace h0 : l3 = false := by simpa using h0
          have hd0 : k3 = true := by simpa [Region.binds] using hd ⟨6, .data⟩ (by simp)
          clear hd
          refine wpOp_step rfl (fun K' hK0 => ?_)
          have hK := (show Hid _ from hK0)
          clear hK0
          obtain rfl := hf3 hd0
          have hC := hU.later H.out.bel
          have z0 := hC.b.c0
          have z1 := hC.b.c1
          go_wp2
          exact hK.out _ _ ⟨m0, k1, l1, k2, l2, c1, k3, true, k4, l4, c2, c3, a, s, mv, f1, v1, f2, v2, _, .agg #[.bool sb', .slice pb' nb' nbc'], f4, v4, r1, r2, r3, x, t17, p17, n17, z17, t27, p27, n27, z27, t37, p37, n37, z37, g, rfl, rfl, hmv, hf1, hv1, hf2, hv2, fun _ => rfl, fun _ => rfl, hf4, hv4, H.out⟩
        · obtain rfl := (Option.some.inj hio)
          replace h0 : k4 = false := by simpa using h0
          clear hd
          refine wpOp_step rfl (fun K' hK0 => ?_)
          have hK := (show Hid _ from hK0)
          clear hK0
          go_wp2
          exact hK.out _ _ ⟨m0, k1, l1, k2, l2, c1, k3, l3, true, l4, c2, c3, a, s, mv, f1, v1, f2, v2, f3, v3, .pointer (some ⟨w.heap.size, 2, none⟩), v4, r1, r2, r3, x, t17, p17, n17, z17, t27, p27, n27, z27, t37, p37, n37, z37, g, rfl, rfl, hmv, hf1, hv1, hf2, hv2, hf3, hv3, fun _ => rfl, hv4, H.out⟩
        · obtain rfl := (Option.some.inj hio)
          replace h0 : l4 = false := by simpa using h0
          have hd0 : k4 = true := by simpa [Region.binds] using hd ⟨8, .data⟩ (by simp)
          clear hd
          refine wpOp_step rfl (fun K' hK0 => ?_)
          have hK := (show Hid _ from hK0)
          clear hK0
          obtain rfl := hf4 hd0
          have hC := hU.later H.out.bel
          have z0 := hC.a.c2
          have z1 := hC.a.c3
          go_wp2
          exact hK.out _ _ ⟨m0, k1, l1, k2, l2, c1, k3, l3, k4, true, c2, c3, a, s, mv, f1, v1, f2, v2, f3, v3, _, .agg #[.bool ta', .slice qa' ma' mac'], r1, r2, r3, x, t17, p17, n17, z17, t27, p27, n27, z27, t37, p37, n37, z37, g, rfl, rfl, hmv, hf1, hv1, hf2, hv2, hf3, hv3, fun _ => rfl, fun _ => rfl, H.out⟩
        · obtain rfl := (Option.some.inj hio)
          replace h0 : c2 = false := by simpa using h0
          have hd0 : l3 = true := by simpa [Region.binds] using hd ⟨7, .data⟩ (by simp)
          have hd1 : l4 = true := by simpa [Region.binds] using hd ⟨9, .data⟩ (by simp)
          clear hd
          refine wpOp_step rfl (fun K' hK0 => ?_)
          have hK := (show Hid _ from hK0)
          clear hK0
          obtain rfl := hv3 hd0
          obtain rfl := hv4 hd1
          have hC := hU.later H.out.bel
          have hfr := Mul_small sb' ta' pb' qa' nb' nbc' ma' mac' xb' ya' w' hC.bn hC.ad (by omega)
          go_wp2_with fail
          refine hfr.mono ?_
          rintro e w'' ⟨tt, pp, nn, zz, rfl, q1, q2, q3⟩
          have H2 := H.out.call2 q3 q1 (by omega)
          clear hfr
          go_wp2
          exact hK.out _ _ ⟨m0, k1, l1, k2, l2, c1, k3, l3, k4, l4, true, c3, a, s, mv, f1, v1, f2, v2, f3, _, f4, _, r1, .agg #[.bool tt, .slice pp nn nn], r3, x, t17, p17, n17, z17, tt, pp, nn, zz, t37, p37, n37, z37, g, rfl, rfl, hmv, hf1, hv1, hf2, hv2, hf3, fun _ => rfl, hf4, fun _ => rfl, H2⟩
        · obtain rfl := (Option.some.inj hio)
          replace h0 : c3 = false := by simpa using h0
          have hd0 : m0 = true := by simpa [Region.binds] using hd ⟨0, .data⟩ (by simp)
          have hd1 : c1 = true := by simpa [Region.binds] using hd ⟨5, .data⟩ (by simp)
          have hd2 : c2 = true := by simpa [Region.binds] using hd ⟨10, .data⟩ (by simp)
          clear hd
          refine wpOp_step rfl (fun K' hK0 => ?_)
          have hK := (show Hid _ from hK0)
          clear hK0
          have hs0 : s = false := by
            cases s with
            | false => rfl
            | true => exact absurd (H.out.o rfl) (by rw [h0]; decide)
          obtain rfl := hmv hd0
          obtain ⟨rfl, m1, m2⟩ := H.out.M1 hd1 hs0
          obtain ⟨rfl, m3, m4⟩ := H.out.M2 hd2 hs0
          have hfr := HJ.out t17 t27 p17 p27 n17 n27 z17 z27 _ _ _ w' (by omega) (by omega) m1 m3
          go_wp2_with fail
          rw [HE.out]
          refine hfr.mono ?_
          rintro e w'' ⟨tt, pp, nn, zz, rfl, q1, q3⟩
          have q2 : nn ≤ Ka + Kb + 1 := q1.le (sum_bd (HOP.out _ _) (m1.abs_lt m2) (m3.abs_lt m4))
          have H2 := H.out.call3 (by rw [h0]; decide) q3 q1 q2
          clear hfr
          go_wp2
          exact hK.out _ _ ⟨m0, k1, l1, k2, l2, c1, k3, l3, k4, l4, c2, true, a, s, _, f1, v1, f2, v2, f3, v3, f4, v4, _, _, .agg #[.bool tt, .slice pp nn nn], x, t17, p17, n17, z17, t27, p27, n27, z27, tt, pp, nn, zz, g, rfl, rfl, fun _ => rfl, hf1, hv1, hf2, hv2, hf3, hv3, hf4, hv4, H2⟩
        · obtain rfl := (Option.some.inj hio)
          replace h0 : a = false := by simpa using h0
          clear hd
          refine wpOp_step rfl (fun K' hK0 => ?_)
          have hK := (show Hid _ from hK0)
          clear hK0
          have H2 := H.out.alloc (by rw [h0]; decide) (.bool false) (.slice none 0 0) 24
          go_wp2
          exact hK.out _ _ ⟨m0, k1, l1, k2, l2, c1, k3, l3, k4, l4, c2, c3, true, s, mv, f1, v1, f2, v2, f3, v3, f4, v4, r1, r2, r3, .pointer (some ⟨w'.heap.size, 0, none⟩), t17, p17, n17, z17, t27, p27, n27, z27, t37, p37, n37, z37, w'.heap.size, rfl, rfl, hmv, hf1, hv1, hf2, hv2, hf3, hv3, hf4, hv4, H2⟩
        · obtain rfl := (Option.some.inj hio)
          replace h0 : s = false := by simpa using h0
          have hd0 : a = true := by simpa [Region.binds] using hd ⟨12, .data⟩ (by simp)
          have hd1 : c3 = true := by simpa [Region.binds] using hd ⟨11, .data⟩ (by simp)
          clear hd
          refine wpOp_step rfl (fun K' hK0 => ?_)
          have hK := (show Hid _ from hK0)
          clear hK0
          have H2 := H.out.store hd0 hd1
          obtain ⟨y1, y2, yu, yv, y3, y4⟩ := H.out.X hd0
          obtain ⟨z0, z1, z2, z3⟩ := y3
          have hr := (H.out.M3 hd1).1
          subst y1 hr
          go_wp2
          exact hK.out _ _ ⟨m0, k1, l1, k2, l2, c1, k3, l3, k4, l4, c2, c3, a, true, mv, f1, v1, f2, v2, f3, v3, f4, v4, r1, r2, _, _, t17, p17, n17, z17, t27, p27, n27, z27, t37, p37, n37, z37, g, rfl, rfl, hmv, hf1, hv1, hf2, hv2, hf3, hv3, hf4, hv4, H2⟩
        · omega
      · refine ⟨false, false, false, false, false, false, false, false, false, false, false, false, false, false, _, _, _, _, _, _, _, _, _, _, _, _, _, false, none, 0, [], false, none, 0, [], false, none, 0, [], 0, rfl, rfl, nofun, nofun, nofun, nofun, nofun, nofun, nofun, nofun, nofun, ?_⟩
        exact ⟨(Below.refl _ _).drew, nofun, nofun, nofun, nofun, nofun, nofun, nofun⟩
    case rest =>
      obtain ⟨g, s, p, n, z, rfl, hU3, hR3, hg3, hN3, hn3, hgl, hb3⟩ := hcut
      have hne : g ≠ w.heap.size + 1 + 1 := by have := hR.lt; omega
      have hne' := hne.symm
      clear hU hR
      have a0 := hU3.a.c0
      have a1 := hU3.a.c1
      have a2 := hU3.a.c2
      have a3 := hU3.a.c3
      have b0 := hU3.b.c0
      have b1 := hU3.b.c1
      have b2 := hU3.b.c2
      have b3 := hU3.b.c3
      have g0 := hg3.c0
      have g1 := hg3.c1
      have sl : g < wc.heap.size := block_lt_of_cell g0
      go_wp2_with fail
      go_region_held3 (fun w' => w'.cell? ⟨w.heap.size, 2, none⟩ = some (.bool ta') ∧ w'.cell? ⟨w.heap.size, 3, none⟩ = some (.slice qa' ma' mac') ∧ w'.cell? ⟨w.heap.size + 1, 2, none⟩ = some (.bool tb') ∧ w'.cell? ⟨w.heap.size + 1, 3, none⟩ = some (.slice qb' mb' mbc') ∧ w'.cell? ⟨g, 0, none⟩ = some (.bool s) ∧ w'.cell? ⟨g, 1, none⟩ = some (.slice p n n)) (first | with_reducible exact ⟨a2, a3, b2, b3, g0, g1⟩ | with_reducible exact keepc6 ⟨a2, a3, b2, b3, g0, g1⟩ (hV2) | with_reducible exact keepc6 ⟨a2, a3, b2, b3, g0, g1⟩ (hV4) | (simp [go_sem, *]; done))
        (first
          | (go_at_call 47; refine (Mul_small ta' tb' qa' qb' ma' mac' mb' mbc' ya' yb' _ hU3.ad.drew hU3.bd.drew (by omega)).mono ?_; rintro e v2 ⟨s2, p2, n2, z2, rfl, hN2, hn2, hv2⟩; have hV2 := undrew hv2)
          | (go_at_call 46; refine (lowest_any s s2 p p2 n n n2 n2 z z2 _ ((hN3.below hV2).ai (by omega)) (hN2.ai (by omega)) (by rw [hN2.v]; have := Int.mul_pos HVa.out.2 HVb.out.2; omega) (by omega) (by omega)).mono ?_; rintro e v4 ⟨s4, p4, n4, x4, t4, q4, m4, y4, rfl, hN4, hv4⟩; have hV4 := bnext' hV2 hv4; have hR4 := hR3.later hV4; obtain ⟨r0, r1, r2, r3, f0, f1, f2, f3⟩ := hR4))
      have HE2 : Rat.divInt (ival s z) (ival s2 z2) = Z := by
        rw [hN3.v, hN2.v]
        exact HZ.out _ _ _ _ HVa.out.2 HVb.out.2 (HVa.out.1.trans HQa.out.symm) (HVb.out.1.trans HQb.out.symm)
      clear a0 a1 a2 a3 b0 b1 b2 b3 g0 g1
      go_wp2
      exact bodyPost_ret (v := .agg #[.bool s4, .slice p4 n4 n4, .bool t4, .slice q4 m4 m4]) (by simp [results, Tryz.results39, go_sem, r0, r1, r2, r3]) rfl (end_nr (hU3.bel.trans (hV2.mono hU3.bel.size)) (by omega) (by have := hR3.lt; have := hV2.size; omega) (hN4.of HE2) hv4)
theorem callAdd (args : Array Value) (w' : World) : Sem.run Tryz.prog (callFunc 40 args) w' = .ok (.enter 40 args) w' := by
  have h1 : ¬ Tryz.f40.name = "runtime.NumGoroutine" := of_decide_eq_false (by kernel_rfl)
  have h2 : ¬ Tryz.f40.body = none := fun h => by cases h
  simp only [callFunc, Tryz.func40, go_sem]
  simp [h1, h2, go_sem]
theorem callSub (args : Array Value) (w' : World) : Sem.run Tryz.prog (callFunc 43 args) w' = .ok (.enter 43 args) w' := by
  have h1 : ¬ Tryz.f43.name = "runtime.NumGoroutine" := of_decide_eq_false (by kernel_rfl)
  have h2 : ¬ Tryz.f43.body = none := fun h => by cases h
  simp only [callFunc, Tryz.func43, go_sem]
  simp [h1, h2, go_sem]
set_option maxRecDepth 100000 in
set_option maxHeartbeats 2000000 in
/-- rat.Add. -/
theorem qAdd_any (sa ta sb tb : Bool) (pa qa pb qb : Option Addr) (na nac ma mac nb nbc mb mbc : Nat) (xa ya xb yb : List Int) (w : World) (hA : AI w pa na nac xa) (hA' : AI w qa ma mac ya) (hB : AI w pb nb nbc xb) (hB' : AI w qb mb mbc yb) (Ka Kb : Nat) (hKa : 1 ≤ Ka) (hKb : 1 ≤ Kb) (hK : Ka + Kb + 2 ≤ 150) (la : na ≤ Ka) (la' : ma ≤ Ka) (lb : nb ≤ Kb) (lb' : mb ≤ Kb) :
    Calls Tryz.prog 10 #[.agg #[.bool sa, .slice pa na nac, .bool ta, .slice qa ma mac], .agg #[.bool sb, .slice pb nb nbc, .bool tb, .slice qb mb mbc]] w (NrPost (Rat.divInt (ival sa xa) (ival ta ya) + Rat.divInt (ival sb xb) (ival tb yb)) w) := by
  have HC : ∀ w', AI w' pa na nac xa → AI w' qa ma mac ya → AI w' pb nb nbc xb → AI w' qb mb mbc yb → Calls Tryz.prog 39 #[.agg #[.bool sa, .slice pa na nac, .bool ta, .slice qa ma mac], .agg #[.bool sb, .slice pb nb nbc, .bool tb, .slice qb mb mbc], .func (.func 40) #[] #[]] w' (NrPost (Rat.divInt (ival sa xa) (ival ta ya) + Rat.divInt (ival sb xb) (ival tb yb)) w') := by
    intro w' h1 h2 h3 h4
    refine combine_any sa ta sb tb pa qa pb qb na nac ma mac nb nbc mb mbc xa ya xb yb w' h1 h2 h3 h4 Ka Kb hKa hKb hK la la' lb lb' 40 callAdd (fun x y => x + y) (fun x y => by show (x + y).natAbs ≤ _; omega) ?_ _ ?_
    · intro s t p q n m xs ys x y B w' hn hm hx hy
      refine (Add_any s t p q n n m m xs ys w' (hx.ai (by omega)) (hy.ai (by omega))).mono ?_
      rintro e w'' ⟨s', p', n', zs, he, hN, hn', hb⟩
      rw [hx.v, hy.v] at hN
      exact ⟨s', p', n', zs, he, hN, hb⟩
    · intro a b c d hb hd ha hc
      rw [← ha, ← hc, Rat.divInt_add_divInt _ _ (by omega) (by omega)]
  generalize Rat.divInt (ival sa xa) (ival ta ya) + Rat.divInt (ival sb xb) (ival tb yb) = Z at *
  go_enter Tryz.func10, Tryz.ntmps10
  go_wp2_with fail
  have hR0 : Bq (((w.alloc (.cells #[.bool sa, .slice pa na nac, .bool ta, .slice qa ma mac] 26)).alloc (.cells #[.bool sb, .slice pb nb nbc, .bool tb, .slice qb mb mbc] 26)).alloc (.cells #[.bool false, .slice none 0 0, .bool false, .slice none 0 0] 26)) (w.heap.size + 1 + 1) (.bool false) (.slice none 0 0) (.bool false) (.slice none 0 0) := Bq.new _ _ _ _ _ (by simp)
  have hW : Below w.heap.size w (((w.alloc (.cells #[.bool sa, .slice pa na nac, .bool ta, .slice qa ma mac] 26)).alloc (.cells #[.bool sb, .slice pb nb nbc, .bool tb, .slice qb mb mbc] 26)).alloc (.cells #[.bool false, .slice none 0 0, .bool false, .slice none 0 0] 26)) := (((Below.refl _ _).alloc (Nat.le_refl _) _).alloc (by simp) _).alloc (by simp; omega) _
  generalize ((w.alloc (.cells #[.bool sa, .slice pa na nac, .bool ta, .slice qa ma mac] 26)).alloc (.cells #[.bool sb, .slice pb nb nbc, .bool tb, .slice qb mb mbc] 26)).alloc (.cells #[.bool false, .slice none 0 0, .bool false, .slice none 0 0] 26) = W at *
  refine (HC W (hA.below hW) (hA'.below hW) (hB.below hW) (hB'.below hW)).mono ?_
  rintro e w3 ⟨s3, p3, n3, x3, t3, q3, m3, y3, rfl, hN3, hb3⟩
  have sR := hR0.lt
  obtain ⟨r0, r1, r2, r3, f0, f1, f2, f3⟩ := hR0.later hb3
  clear HC
  go_wp2
  exact bodyPost_ret (v := .agg #[.bool s3, .slice p3 n3 n3, .bool t3, .slice q3 m3 m3]) (by simp [results, Tryz.results10, go_sem, r0, r1, r2, r3]) rfl (end_nr hW (by omega) sR hN3 hb3)
set_option maxRecDepth 100000 in
set_option maxHeartbeats 2000000 in
/-- rat.Sub. -/
theorem qSub_any (sa ta sb tb : Bool) (pa qa pb qb : Option Addr) (na nac ma mac nb nbc mb mbc : Nat) (xa ya xb yb : List Int) (w : World) (hA : AI w pa na nac xa) (hA' : AI w qa ma mac ya) (hB : AI w pb nb nbc xb) (hB' : AI w qb mb mbc yb) (Ka Kb : Nat) (hKa : 1 ≤ Ka) (hKb : 1 ≤ Kb) (hK : Ka + Kb + 2 ≤ 150) (la : na ≤ Ka) (la' : ma ≤ Ka) (lb : nb ≤ Kb) (lb' : mb ≤ Kb) :
    Calls Tryz.prog 12 #[.agg #[.bool sa, .slice pa na nac, .bool ta, .slice qa ma mac], .agg #[.bool sb, .slice pb nb nbc, .bool tb, .slice qb mb mbc]] w (NrPost (Rat.divInt (ival sa xa) (ival ta ya) - Rat.divInt (ival sb xb) (ival tb yb)) w) := by
  have HC : ∀ w', AI w' pa na nac xa → AI w' qa ma mac ya → AI w' pb nb nbc xb → AI w' qb mb mbc yb → Calls Tryz.prog 39 #[.agg #[.bool sa, .slice pa na nac, .bool ta, .slice qa ma mac], .agg #[.bool sb, .slice pb nb nbc, .bool tb, .slice qb mb mbc], .func (.func 43) #[] #[]] w' (NrPost (Rat.divInt (ival sa xa) (ival ta ya) - Rat.divInt (ival sb xb) (ival tb yb)) w') := by
    intro w' h1 h2 h3 h4
    refine combine_any sa ta sb tb pa qa pb qb na nac ma mac nb nbc mb mbc xa ya xb yb w' h1 h2 h3 h4 Ka Kb hKa hKb hK la la' lb lb' 43 callSub (fun x y => x - y) (fun x y => by show (x - y).natAbs ≤ _; omega) ?_ _ ?_
    · intro s t p q n m xs ys x y B w' hn hm hx hy
      refine (Sub_any s t p q n n m m xs ys w' (hx.ai (by omega)) (hy.ai (by omega))).mono ?_
      rintro e w'' ⟨s', p', n', zs, he, hN, hn', hb⟩
      rw [hx.v, hy.v] at hN
      exact ⟨s', p', n', zs, he, hN, hb⟩
    · intro a b c d hb hd ha hc
      rw [← ha, ← hc, Rat.divInt_sub_divInt _ _ (by omega) (by omega)]
  generalize Rat.divInt (ival sa xa) (ival ta ya) - Rat.divInt (ival sb xb) (ival tb yb) = Z at *
  go_enter Tryz.func12, Tryz.ntmps12
  go_wp2_with fail
  have hR0 : Bq (((w.alloc (.cells #[.bool sa, .slice pa na nac, .bool ta, .slice qa ma mac] 26)).alloc (.cells #[.bool sb, .slice pb nb nbc, .bool tb, .slice qb mb mbc] 26)).alloc (.cells #[.bool false, .slice none 0 0, .bool false, .slice none 0 0] 26)) (w.heap.size + 1 + 1) (.bool false) (.slice none 0 0) (.bool false) (.slice none 0 0) := Bq.new _ _ _ _ _ (by simp)
  have hW : Below w.heap.size w (((w.alloc (.cells #[.bool sa, .slice pa na nac, .bool ta, .slice qa ma mac] 26)).alloc (.cells #[.bool sb, .slice pb nb nbc, .bool tb, .slice qb mb mbc] 26)).alloc (.cells #[.bool false, .slice none 0 0, .bool false, .slice none 0 0] 26)) := (((Below.refl _ _).alloc (Nat.le_refl _) _).alloc (by simp) _).alloc (by simp; omega) _
  generalize ((w.alloc (.cells #[.bool sa, .slice pa na nac, .bool ta, .slice qa ma mac] 26)).alloc (.cells #[.bool sb, .slice pb nb nbc, .bool tb, .slice qb mb mbc] 26)).alloc (.cells #[.bool false, .slice none 0 0, .bool false, .slice none 0 0] 26) = W at *
  refine (HC W (hA.below hW) (hA'.below hW) (hB.below hW) (hB'.below hW)).mono ?_
  rintro e w3 ⟨s3, p3, n3, x3, t3, q3, m3, y3, rfl, hN3, hb3⟩
  have sR := hR0.lt
  obtain ⟨r0, r1, r2, r3, f0, f1, f2, f3⟩ := hR0.later hb3
  clear HC
  go_wp2
  exact bodyPost_ret (v := .agg #[.bool s3, .slice p3 n3 n3, .bool t3, .slice q3 m3 m3]) (by simp [results, Tryz.results12, go_sem, r0, r1, r2, r3]) rfl (end_nr hW (by omega) sR hN3 hb3)
end Go.Proofs.YtongkalfdgleaaaGreatDoor
