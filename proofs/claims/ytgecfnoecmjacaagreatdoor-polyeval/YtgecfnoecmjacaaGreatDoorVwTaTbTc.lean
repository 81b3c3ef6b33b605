/-
  ashlarref3.Eval.
-/
import Derived.Test.YtgecfnoecmjacaaGreatDoorVqUj
import Derived.Test.YtgecfnoecmjacaaGreatDoorHgHhZa
import Derived.Test.YtgecfnoecmjacaaGreatDoorRpVnVp
import Derived.Deep.DeepFit
import Derived.Test.YtgecfnoecmjacaaGreatDoorRfRhCqRr
import Derived.Test.YtgecfnoecmjacaaGreatDoorGaGbKp
namespace Go.Proofs.YtgecfnoecmjacaaGreatDoor
open Go.RowKit
set_option linter.unusedVariables false
set_option linter.unusedSimpArgs false

theorem RE.tight {w : World} {N K : Nat} {z : Int} {e : Ent} (h : RE w N z e) (hz : (z.natAbs : Int) < pw K) : RE w (2 * K) z e := ⟨h.1.tight hz, h.2⟩
/-- Eval's variable behind some rounds. -/
structure EV2 (w wr : World) (g T : Nat) (z : Int) (u f : Ent) : Prop where
  b : Bx wr g (.bool u.s) (.slice u.p u.n u.c)
  r : RE wr T z u
  o : 0 < u.n → Off (w.heap.size + 1) u.p
  rb : Bx wr (w.heap.size + 1) (.bool false) (.slice none 0 0)
  xb : Bx wr w.heap.size (.bool f.s) (.slice f.p f.n f.c)
  bw : Below w.heap.size w wr
  lt : w.heap.size + 1 < g
set_option maxHeartbeats 4000000 in
set_option maxRecDepth 100000 in
/-- ashlarref3.Eval. -/
theorem rpEval_any {w : World} {N M K L : Nat} {p : Option Addr} {n nc : Nat} {es : List Ent} {zs : List Int} {x : Int} {f : Ent} (h : PR w N p n nc es zs) (hf : RE w M x f) (hn : n ≤ 1000) (hN : N ≤ 400) (hM : M ≤ 400) (hX : ∀ i, ((gx zs i).natAbs : Int) < pw K) (hY : (x.natAbs : Int) < pw L) (hK : K + n * (L + 1) ≤ 150) (hK2 : 2 ≤ K) :
    Calls Tryz.prog 38 #[.slice p n nc, .agg #[.bool f.s, .slice f.p f.n f.c]] w fun r w' => ∃ u : Ent, r = .returned (.agg #[.bool u.s, .slice u.p u.n u.c]) ∧ RE w' (2 * (K + n * (L + 1))) (evz x zs) u ∧ Below w.heap.size w w' := by
  have HX : Hid (PR w N p n nc es zs ∧ RE w M x f ∧ (∀ i, i ≤ n → ((evz x (zs.drop i)).natAbs : Int) < pw (K + n * (L + 1)))) := by
    refine ⟨h, hf, fun i hi => ?_⟩
    have h1 := evz_lt (K := K) hY (zs.drop i) (fun j => by rw [gx_drop]; exact hX _)
    refine Int.lt_of_lt_of_le h1 (pw_mono ?_)
    have h2 : (zs.drop i).length ≤ n := by rw [List.length_drop, h.zl]; omega
    have := Nat.mul_le_mul_right (L + 1) h2
    omega
  have hel := h.el
  have hzl := h.zl
  have HK : Hid (K + n * (L + 1) ≤ 150 ∧ 2 ≤ K + n * (L + 1)) := ⟨hK, by omega⟩
  clear h hf hX hY hK
  generalize hT : K + n * (L + 1) = T at *
  clear hT
  go_enter Tryz.func38, Tryz.ntmps38
  go_wp2_with fail
  have hal0 := bel_al (o := .cells #[.bool false, .slice none 0 0] 35) (bel_al (o := .cells #[.bool f.s, .slice f.p f.n f.c] 35) (Below.refl w.heap.size w))
  have hr0 : Bx ((w.alloc (.cells #[.bool f.s, .slice f.p f.n f.c] 35)).alloc (.cells #[.bool false, .slice none 0 0] 35)) (w.heap.size + 1) (.bool false) (.slice none 0 0) := Bx.new _ _ _ (by simp)
  have hx0 : Bx ((w.alloc (.cells #[.bool f.s, .slice f.p f.n f.c] 35)).alloc (.cells #[.bool false, .slice none 0 0] 35)) w.heap.size (.bool f.s) (.slice f.p f.n f.c) := (Bx.new _ _ _ rfl).alloc _
  generalize (w.alloc (.cells #[.bool f.s, .slice f.p f.n f.c] 35)).alloc (.cells #[.bool false, .slice none 0 0] 35) = W0 at *
  refine (rOf_e 0 W0 (by decide) (by decide)).mono ?_
  rintro e w1 ⟨u0, rfl, hR1, hF1, hb1⟩
  have hal := bel_al (o := .cells #[.bool u0.s, .slice u0.p u0.n u0.c] 35) (Below.refl w1.heap.size w1)
  have hB1 : Bx (w1.alloc (.cells #[.bool u0.s, .slice u0.p u0.n u0.c] 35)) w1.heap.size (.bool u0.s) (.slice u0.p u0.n u0.c) := Bx.new _ _ _ rfl
  have hw0 : w.heap.size + 1 < W0.heap.size := block_lt_of_cell hr0.c0
  have hlt : w.heap.size + 1 < w1.heap.size := Nat.lt_of_lt_of_le hw0 hb1.size
  have HC : Hid (EV2 w (w1.alloc (.cells #[.bool u0.s, .slice u0.p u0.n u0.c] 35)) w1.heap.size (2 * T) (evz x (zs.drop n)) u0 f) := by
    rw [List.drop_eq_nil_of_le (by omega)]
    refine ⟨hB1, (hR1.wide (by have := HK.out.2; omega)).below hal, fun h0 a ha e => ?_, (hr0.later hb1).later hal, (hx0.later hb1).later hal, bnext' (bnext' hal0 hb1) hal, hlt⟩
    have := hF1 a ha; omega
  clear hr0 hal0 hR1 hF1 hb1 hal hB1 hw0 hx0
  go_wp2_with fail
  generalize w1.alloc (.cells #[.bool u0.s, .slice u0.p u0.n u0.c] 35) = W1 at *
  generalize w1.heap.size = g at *
  go_loopw [6] (fun iv wr => ∃ (k : Nat) (u : Ent), k ≤ n ∧ iv = .int .i64 ((k : Int) - 1) ∧ Hid (EV2 w wr g (2 * T) (evz x (zs.drop k)) u f)) (fun iv _ => (intOf iv + 1).toNat)
  case atStart => exact ⟨n, u0, Nat.le_refl _, by go_num, HC.out⟩
  case round =>
    clear HC
    obtain ⟨k, u, hk, rfl, H⟩ := hrel
    have hcs : Hid (k = 0 ∨ ∃ j, k = j + 1) := by cases k with | zero => exact .inl rfl | succ j => exact .inr ⟨j, rfl⟩
    rcases hcs.out with rfl | ⟨j, rfl⟩
    · have hV := H.out
      rw [List.drop_zero] at hV
      obtain ⟨q0, q1, -, -⟩ := id hV.b
      obtain ⟨r0, r1, f0, f1⟩ := id hV.rb
      have HV : Hid (EV2 w wr g (2 * T) (evz x zs) u f) := hV
      clear H hV hcs
      go_wp2
      refine bodyPost_ret (v := .agg #[.bool u.s, .slice u.p u.n u.c]) (by simp [results, Tryz.results38, go_sem, r0, r1]) rfl ⟨u, rfl, ?_, ?_⟩
      · exact HV.out.r.set2 (o := 0) HV.out.o
      · exact bset2 HV.out.bw (by omega) _ _
    · have hV := H.out
      have hP := HX.out.1.below hV.bw
      obtain ⟨b, o, hp, hc⟩ := hP.pl (by omega)
      subst hp
      obtain ⟨c0, c1⟩ := hc j (by omega)
      have he := hP.ev j (by omega)
      have hxe := HX.out.2.1.below hV.bw
      obtain ⟨q0, q1, -, -⟩ := id hV.b
      obtain ⟨x0, x1, -, -⟩ := id hV.xb
      have i0 : ((j + 1 : Nat) : Int) - 1 = (j : Int) := by omega
      have i1 : (j : Int) < (n : Int) := by omega
      have i2 : (0 : Int) ≤ (j : Int) := by omega
      have HV : Hid (EV2 w wr g (2 * T) (evz x (zs.drop (j + 1))) u f) := hV
      have hltg : g < wr.heap.size := block_lt_of_cell q0
      have hwg := hV.lt
      rw [i0]
      clear hV hP hc hcs H
      go_upto_region 5 with fail
      go_region_with (first
        | (go_at_call 51; go_fit (rMul_e (HV.out.r.below (Below.refl _ _).drew) (hxe.below (Below.refl _ _).drew) (by have := HK.out; omega) (by omega)); rintro r v1 ⟨u1, rfl, hN1, hF1, hb1⟩; have hB1 := undrew hb1; have d0 := cell_later hB1 c0; have d1 := cell_later hB1 c1)
        | (go_at_call 59; go_fit (rAdd_e hN1 (he.below hB1) (by have := HK.out; omega) (by omega)); rintro r v2 ⟨u2, rfl, hN2, hF2, hb2⟩; have hB2 := bnext' hB1 hb2; obtain ⟨z0, z1, f0, f1⟩ := HV.out.b.later hB2))
      all_goals
        have hnx : EV2 w ((v2.setCell ⟨g, 0, none⟩ (.bool u2.s)).setCell ⟨g, 1, none⟩ (.slice u2.p u2.n u2.c)) g (2 * T) (evz x (zs.drop j)) u2 f := by
          rw [← evz_drop x zs j (by omega)] at hN2
          have hN3 := hN2.tight (HX.out.2.2 j (by omega))
          have hs := hB1.size
          exact ⟨Bx_set (HV.out.b.later hB2), hN3.set2 (o := 0) (fun _ a ha e => by have := hF2 a ha; omega), fun _ a ha e => by have := hF2 a ha; omega, Bx_oth (HV.out.rb.later hB2) (by omega), Bx_oth (HV.out.xb.later hB2) (by omega), bset2 (bnext' HV.out.bw hB2) (by omega) _ _, hwg⟩
        have HN := (show Hid _ from hnx)
        clear hnx hN1 hN2 c0 c1 q0 q1 z0 z1 f0 f1 HV d0 d1 he hxe x0 x1
        go_wp2
        refine ⟨⟨j, u2, by omega, by go_num, HN.out⟩, by simp [intOf]⟩
end Go.Proofs.YtgecfnoecmjacaaGreatDoor
/-
  ashlarref1.small.
-/
namespace Go.Proofs.YtgecfnoecmjacaaGreatDoor
open Go.RowKit
set_option linter.unusedVariables false
set_option linter.unusedSimpArgs false

/-- What small answers. -/
def SmPost (n : Nat) (ds : List Int) (m : Int) (w : World) (e : Ending) (w' : World) : Prop :=
  ∃ Q c, e = .returned (.tuple #[.slice (some ⟨w.heap.size, 0, none⟩) n n, .int .i64 c]) ∧ Q.length = n ∧ U16 Q ∧ 0 ≤ c ∧ c < m ∧ vd ds = vd Q * m + c ∧ Row w' w.heap.size 3 .i64 Q ∧ Below w.heap.size w w'

theorem vd_drop_cons (xs : List Int) (i : Nat) (h : i < xs.length) : vd (xs.drop i) = gx xs i + 65536 * vd (xs.drop (i + 1)) := by
  rw [drop_cons xs i h]; rfl

set_option maxRecDepth 100000 in
set_option maxHeartbeats 2000000 in
/-- ashlarref1.small. -/
theorem rsmall_any (p : Option Addr) (n nc : Nat) (ds : List Int) (m : Int) (w : World) (hl : ds.length = n) (hn : n ≤ 1000000) (hX : Rd w p .i64 ds) (hU : U16 ds) (hm0 : 0 < m) (hm1 : m < 65536) :
    Calls Tryz.prog 176 #[.slice p n nc, .int .i64 m] w (SmPost n ds m w) := by
  have hmk := mk_int n (by omega)
  have HL : Hid (ds.length = n) := hl
  clear hl
  have hrow := Row.new w 3 .i64 (zeros n)
  have hbel : Below w.heap.size w (w.alloc (.cells (ca .i64 (zeros n)) 3)) := (Below.refl _ _).alloc (Nat.le_refl _) _
  have HB : Hid (Row (w.alloc (.cells (ca .i64 (zeros n)) 3)) w.heap.size 3 .i64 (zeros n) ∧ Below w.heap.size w (w.alloc (.cells (ca .i64 (zeros n)) 3))) := ⟨hrow, hbel⟩
  clear hrow hbel
  have hmz : (m == 0) = false := beq_eq_false_iff_ne.2 (by omega)
  go_enter Tryz.func176, Tryz.ntmps176
  go_wp2
  generalize w.alloc (.cells (ca .i64 (zeros n)) 3) = W at *
  go_loopw [7, 8] (fun cv iv wr => ∃ (t : Nat) (c : Int) (Q : List Int), t ≤ n ∧ iv = .int .i64 ((t : Int) - 1) ∧ cv = .int .i64 c ∧ 0 ≤ c ∧ c < m ∧ Hid (Q.length = n ∧ U16 Q ∧ vd (ds.drop t) = vd (Q.drop t) * m + c ∧ Row wr w.heap.size 3 .i64 Q ∧ Below w.heap.size w wr)) (fun _ iv _ => (intOf iv + 1).toNat)
  case atStart => exact ⟨n, 0, zeros n, Nat.le_refl _, by go_num, rfl, by decide, hm0, length_zeros n, u16_zeros n, by rw [List.drop_of_length_le (by have := HL.out; omega), List.drop_of_length_le (by rw [length_zeros]; omega)]; simp [vd], HB.out.1, HB.out.2⟩
  case round =>
    obtain ⟨t, c, Q, ht, rfl, rfl, hc0, hc1, H⟩ := hrel
    by_cases h0 : t = 0
    · subst h0
      go_wp2
      go_ret2
      obtain ⟨h1, h2, h3, h4, h5⟩ := H.out
      rw [List.drop_zero, List.drop_zero] at h3
      exact ⟨Q, c, rfl, h1, h2, hc0, hc1, h3, h4, h5⟩
    · obtain ⟨i, rfl⟩ : ∃ i, t = i + 1 := ⟨t - 1, by omega⟩
      have ei : ((i + 1 : Nat) : Int) - 1 = (i : Int) := by omega
      rw [ei]
      clear ei
      obtain ⟨h1, h2, h3, h4, h5⟩ := H.out
      obtain ⟨b, off, rfl, hcell⟩ := (hX.below h5) (by have := HL.out; omega)
      have g1 := hcell i (by have := HL.out; omega)
      have g2 := h4.cell i (by omega)
      have g3 := h4.frozen i
      obtain ⟨x0, x1⟩ := hU i
      have iI : (i : Int) < (n : Int) := by omega
      have hq0 : 0 ≤ (c * 65536 + gx ds i) / m := Int.ediv_nonneg (by omega) (by omega)
      have hq1 : (c * 65536 + gx ds i) / m < 65536 := Int.ediv_lt_of_lt_mul hm0 (by
        have : (c + 1) * 65536 ≤ m * 65536 := Int.mul_le_mul_of_nonneg_right (by omega) (by decide)
        omega)
      have hr0 := Int.emod_nonneg (c * 65536 + gx ds i) (show m ≠ 0 by omega)
      have hr1 := Int.emod_lt_of_pos (c * 65536 + gx ds i) hm0
      have hrd := Int.emod_add_mul_ediv (c * 65536 + gx ds i) m
      have HR : Hid ((c * 65536 + gx ds i) % m + m * ((c * 65536 + gx ds i) / m) = c * 65536 + gx ds i) := hrd
      have q1 : (c * 65536 + gx ds i).tdiv m = (c * 65536 + gx ds i) / m := Int.tdiv_eq_ediv_of_nonneg (by omega)
      have q2 : (c * 65536 + gx ds i).tmod m = (c * 65536 + gx ds i) % m := Int.tmod_eq_emod_of_nonneg (by omega)
      clear h1 h2 h3 h4 h5 hcell hrd
      go_wp2
      obtain ⟨h1, h2, h3, h4, h5⟩ := H.out
      refine ⟨⟨i, _, Q.set i ((c * 65536 + gx ds i) / m), by omega, rfl, rfl, hr0, hr1, by rw [List.length_set]; exact h1, u16_set h2 _ ⟨hq0, hq1⟩, ?_, h4.set i _, h5.setCell (p := ⟨w.heap.size, i, none⟩) (Nat.le_refl _) _⟩, by simp [intOf]⟩
      rw [vd_drop_cons ds i (by have := HL.out; omega), h3, vd_drop_cons _ i (by rw [List.length_set]; omega), gx_set_eq Q i _ (by omega), List.drop_set_of_lt (by omega), Int.add_mul, Int.mul_assoc]
      have e := HR.out
      have e2 : (c * 65536 + gx ds i) / m * m = m * ((c * 65536 + gx ds i) / m) := Int.mul_comm ..
      rw [e2]
      omega
end Go.Proofs.YtgecfnoecmjacaaGreatDoor
/-
  ashlarref1.times.
-/
namespace Go.Proofs.YtgecfnoecmjacaaGreatDoor
open Go.RowKit
set_option linter.unusedVariables false
set_option linter.unusedSimpArgs false

/-- What times answers. -/
def TmPost (n : Nat) (V : Int) (w : World) (e : Ending) (w' : World) : Prop :=
  ∃ R, e = .returned (.slice (some ⟨w.heap.size, 0, none⟩) (n + 1) (n + 1)) ∧ R.length = n + 1 ∧ U16 R ∧ vd R = V ∧ Row w' w.heap.size 3 .i64 R ∧ Below w.heap.size w w'
theorem mul_bd17 {v x : Int} (h1 : 0 ≤ v ∧ v < 65536) (h2 : 0 ≤ x ∧ x ≤ 65536) : 0 ≤ v * x ∧ v * x ≤ 4294901760 := by
  refine ⟨Int.mul_nonneg h1.1 h2.1, ?_⟩
  have a1 : v * x ≤ v * 65536 := Int.mul_le_mul_of_nonneg_left (by omega) h1.1
  omega

set_option maxRecDepth 100000 in
set_option maxHeartbeats 2000000 in
/-- ashlarref1.times. -/
theorem rtimes_any (p : Option Addr) (n nc : Nat) (ds : List Int) (m : Int) (w : World) (hl : ds.length = n) (hn : n ≤ 1000000) (hX : Rd w p .i64 ds) (hU : U16 ds) (hm0 : 0 ≤ m) (hm1 : m ≤ 65536) :
    Calls Tryz.prog 177 #[.slice p n nc, .int .i64 m] w (TmPost n (vd ds * m) w) := by
  have hmk := mk_int (n + 1) (by omega)
  have ec : ((n + 1 : Nat) : Int) = (n : Int) + 1 := by omega
  rw [ec] at hmk
  clear ec
  have HL : Hid (ds.length = n) := hl
  clear hl
  have hrow := Row.new w 3 .i64 (zeros (n + 1))
  have hbel : Below w.heap.size w (w.alloc (.cells (ca .i64 (zeros (n + 1))) 3)) := (Below.refl _ _).alloc (Nat.le_refl _) _
  have HB : Hid (Row (w.alloc (.cells (ca .i64 (zeros (n + 1))) 3)) w.heap.size 3 .i64 (zeros (n + 1)) ∧ Below w.heap.size w (w.alloc (.cells (ca .i64 (zeros (n + 1))) 3))) := ⟨hrow, hbel⟩
  clear hrow hbel
  go_enter Tryz.func177, Tryz.ntmps177
  go_wp2
  generalize w.alloc (.cells (ca .i64 (zeros (n + 1))) 3) = W at *
  go_loopw [6, 7] (fun cv iv wr => ∃ (k : Nat) (c : Int) (R : List Int), k ≤ n ∧ iv = .int .i64 k ∧ cv = .int .i64 c ∧ 0 ≤ c ∧ c < 65536 ∧ Hid (R.length = n + 1 ∧ U16 R ∧ (∀ j, k ≤ j → gx R j = 0) ∧ vd (R.take k) + pd k * c = vd (ds.take k) * m ∧ Row wr w.heap.size 3 .i64 R ∧ Below w.heap.size w wr)) (fun _ iv _ => (n - intOf iv).toNat)
  case atStart => exact ⟨0, 0, zeros (n + 1), Nat.zero_le _, by go_num, rfl, by decide, by decide, length_zeros _, u16_zeros _, fun j _ => gx_zeros _ j, by simp [vd], HB.out.1, HB.out.2⟩
  case round =>
    obtain ⟨k, c, R, hk, rfl, rfl, hc0, hc1, H⟩ := hrel
    by_cases hkn : k < n
    · obtain ⟨h1, h2, h3, h4, h5, h6⟩ := H.out
      obtain ⟨b, off, rfl, hcell⟩ := (hX.below h6) (by have := HL.out; omega)
      have g1 := hcell k (by have := HL.out; omega)
      have g2 := h5.cell k (by omega)
      have g3 := h5.frozen k
      have hb := mul_bd17 (hU k) ⟨hm0, hm1⟩
      have hkI : (k : Int) < (n : Int) := by omega
      have hkI2 : (k : Int) < (n : Int) + 1 := by omega
      have q1 : (c + gx ds k * m).tmod 65536 = (c + gx ds k * m) % 65536 := Int.tmod_eq_emod_of_nonneg (by omega)
      have q2 : (c + gx ds k * m).tdiv 65536 = (c + gx ds k * m) / 65536 := Int.tdiv_eq_ediv_of_nonneg (by omega)
      clear h1 h2 h3 h4 h5 h6 hcell
      go_wp2
      obtain ⟨h1, h2, h3, h4, h5, h6⟩ := H.out
      refine ⟨⟨k + 1, _, R.set k ((c + gx ds k * m) % 65536), by omega, by go_num, rfl, by omega, by omega, by rw [List.length_set]; exact h1, u16_set h2 _ (by omega), fun j hj => ?_, ?_, h5.set k _, h6.setCell (p := ⟨w.heap.size, k, none⟩) (Nat.le_refl _) _⟩, by simp [intOf]; omega⟩
      · rw [gx_set_ne R _ _ _ (by omega)]; exact h3 j (by omega)
      · rw [vd_take_succ _ k, vd_take_succ ds k, gx_set_eq R k _ (by omega), List.take_set_of_le (Nat.le_refl _), pd_succ, Int.add_mul, ← h4, Int.mul_assoc (pd k)]
        have e1 := cut16 (pd k) (c + gx ds k * m)
        rw [Int.mul_add] at e1
        omega
    · obtain rfl : k = n := by omega
      obtain ⟨h1, h2, h3, h4, h5, h6⟩ := H.out
      have g2 := h5.cell k (by omega)
      have g3 := h5.frozen k
      have hkI2 : (k : Int) < (k : Int) + 1 := by omega
      clear h1 h2 h3 h4 h5 h6
      go_wp2
      go_ret
      obtain ⟨h1, h2, h3, h4, h5, h6⟩ := H.out
      refine ⟨R.set k c, rfl, by rw [List.length_set]; exact h1, u16_set h2 _ ⟨hc0, hc1⟩, ?_, h5.set k _, h6.setCell (p := ⟨w.heap.size, k, none⟩) (Nat.le_refl _) _⟩
      rw [List.take_of_length_le (l := ds) (by have := HL.out; omega)] at h4
      have e := vd_take_succ (R.set k c) k
      rw [List.take_of_length_le (by rw [List.length_set]; omega), List.take_set_of_le (Nat.le_refl _), gx_set_eq R k c (by omega)] at e
      rw [e, h4]
end Go.Proofs.YtgecfnoecmjacaaGreatDoor
/-
  ashlarref1.divide: plain facts.
-/
namespace Go.Proofs.YtgecfnoecmjacaaGreatDoor
open Go.RowKit
set_option linter.unusedVariables false
set_option linter.unusedSimpArgs false

theorem vd_drop_next (xs : List Int) (i : Nat) : vd (xs.drop i) = gx xs i + 65536 * vd (xs.drop (i + 1)) := by
  by_cases h : i < xs.length
  · exact vd_drop_cons xs i h
  · rw [List.drop_of_length_le (by omega), List.drop_of_length_le (by omega), gx_past xs i (by omega) i (Nat.le_refl _)]; rfl
theorem vd_cut (xs : List Int) (i : Nat) : vd xs = vd (xs.take i) + pd i * vd (xs.drop i) := by
  by_cases h : i ≤ xs.length
  · exact vd_drop_take xs i h
  · rw [List.take_of_length_le (by omega), List.drop_of_length_le (by omega)]; simp [vd]
/-- A guess by the two highest digits is not too small. -/
theorem guess_ge {Uk v top low vt vl P Q : Int} (hP : 0 < P) (h1 : Uk = top * P + low) (h3 : low < P) (h4 : v = vt * P + vl) (h5 : 0 ≤ vl) (h6 : 0 < vt) (hQ : 0 ≤ Q) (h : Q * v ≤ Uk) : Q ≤ top / vt := by
  apply (Int.le_ediv_iff_mul_le h6).2
  have e : Q * v = (Q * vt) * P + Q * vl := by rw [h4, Int.mul_add, Int.mul_assoc]
  have h7 := Int.mul_nonneg hQ h5
  have h8 : (Q * vt) * P < (top + 1) * P := by rw [Int.add_mul, Int.one_mul]; omega
  have h9 := Int.lt_of_mul_lt_mul_right h8 (Int.le_of_lt hP)
  omega
/-- What the two highest digits are. -/
theorem top_two (us : List Int) (k n : Nat) (hn : 1 ≤ n) (hz : vd (us.drop (k + n + 1)) = 0) : vd (us.drop k) = (gx us (k + n) * 65536 + gx us (k + n - 1)) * pd (n - 1) + vd ((us.drop k).take (n - 1)) := by
  rw [vd_cut (us.drop k) (n - 1), List.drop_drop, show k + (n - 1) = k + n - 1 by omega, vd_drop_next us (k + n - 1), show k + n - 1 + 1 = k + n by omega, vd_drop_next us (k + n), hz, Int.mul_comm (pd (n - 1))]
  have : gx us (k + n - 1) + 65536 * (gx us (k + n) + 65536 * 0) = gx us (k + n) * 65536 + gx us (k + n - 1) := by omega
  rw [this]
  omega
theorem drop_zero_of {us : List Int} (h : U16 us) {k n : Nat} {v : Int} (h1 : vd (us.drop k) < v) (h2 : v ≤ pd n) : vd (us.drop (k + n)) = 0 := by
  have e := vd_cut (us.drop k) n
  rw [List.drop_drop] at e
  have h3 := vd_nonneg (u16_take (u16_drop h k) n)
  have h4 := vd_nonneg (u16_drop h (k + n))
  rcases (show vd (us.drop (k + n)) = 0 ∨ 1 ≤ vd (us.drop (k + n)) by omega) with h5 | h5
  · exact h5
  · have : pd n * 1 ≤ pd n * vd (us.drop (k + n)) := Int.mul_le_mul_of_nonneg_left h5 (Int.le_of_lt (pd_pos n))
    omega
theorem quo_le {x y Q g : Int} (hy : 0 < y) (hQ : Q = x / y) (hg : g * y ≤ x) : g ≤ Q := by
  rw [hQ]; exact (Int.le_ediv_iff_mul_le hy).2 hg
theorem quo_mul {x y : Int} (hy : 0 < y) : x / y * y ≤ x ∧ x < (x / y + 1) * y := by
  have h1 := Int.emod_add_mul_ediv x y
  have h2 := Int.emod_nonneg x (show y ≠ 0 by omega)
  have h3 := Int.emod_lt_of_pos x hy
  rw [Int.mul_comm y] at h1
  rw [Int.add_mul, Int.one_mul]
  constructor <;> omega
/-- One digit of a difference. -/
theorem sub_step (P u c d b x c' b' : Int) (hx : x = u - d - b + 65536 * b') (hc : c = d + 65536 * c') : P * x + P * (c + b) = P * u + 65536 * P * (c' + b') := by
  subst hx
  subst hc
  grind
end Go.Proofs.YtgecfnoecmjacaaGreatDoor
