/-
  ashlarref1.Mul.
-/
import Derived.Test.YtkjpeehbhmcojaaGreatDoorCyViDsAeVuWxUpUq
import Derived.Test.YtkjpeehbhmcojaaGreatDoorAbDnDoAcReRxRfRhCqRrRwVa
namespace Go.Proofs.YtkjpeehbhmcojaaGreatDoor
open Go.RowKit
set_option linter.unusedVariables false
set_option linter.unusedSimpArgs false
set_option maxHeartbeats 8000000
theorem mul_bd16 {v x : Int} (h1 : 0 ≤ v ∧ v < 65536) (h2 : 0 ≤ x ∧ x < 65536) : 0 ≤ v * x ∧ v * x ≤ 4294836225 := by
  refine ⟨Int.mul_nonneg h1.1 h2.1, ?_⟩
  have a1 : v * x ≤ v * 65535 := Int.mul_le_mul_of_nonneg_left (by omega) h1.1
  omega
theorem mul_lt_pd {a b : List Int} {i j : Nat} (ha : U16 a) (hb : U16 b) (hi : a.length ≤ i) (hj : b.length ≤ j) : vd a * vd b < pd (i + j) := by
  have a1 := vd_lt ha
  have b1 := vd_lt hb
  have a0 := vd_nonneg ha
  have b0 := vd_nonneg hb
  have a2 := pd_mono hi
  have b2 := pd_mono hj
  rw [pd_add]
  have c1 : vd a * vd b ≤ vd a * pd j := Int.mul_le_mul_of_nonneg_left (by omega) a0
  have c2 : vd a * pd j < pd i * pd j := Int.mul_lt_mul_of_pos_right (by omega) (pd_pos j)
  omega
set_option maxRecDepth 100000 in
theorem rMul_any (s t : Bool) (p q : Option Addr) (n nc m mc : Nat) (xs ys : List Int) (w : World) (hn : xs.length = n) (hm : ys.length = m) (hnb : n ≤ 1000000) (hmb : m ≤ 1000000) (hX : Rd w p .i64 xs) (hXu : U16 xs) (hY : Rd w q .i64 ys) (hYu : U16 ys) :
    Calls Tryz.prog 29 #[.agg #[.bool s, .slice p n nc], .agg #[.bool t, .slice q m mc]] w (RAns (n + m + 1) (rval s xs * rval t ys) w) := by
  have hmk := mk_int (n + m + 1) (by omega)
  have ec : ((n + m + 1 : Nat) : Int) = (n : Int) + (m : Int) + 1 := by omega
  rw [ec] at hmk
  clear ec
  have HN : Hid (xs.length = n ∧ ys.length = m) := ⟨hn, hm⟩
  clear hn hm
  go_enter Tryz.func29, Tryz.ntmps29
  go_wp2
  have hrow := Row.new3 w (Obj.cells #[Value.bool s, Value.slice p n nc] 50) (Obj.cells #[Value.bool t, Value.slice q m mc] 50) (Obj.cells #[Value.bool false, Value.slice none 0 0] 50) 3 .i64 (zeros (n + m + 1))
  have hWs : (((w.alloc (Obj.cells #[Value.bool s, Value.slice p n nc] 50)).alloc (Obj.cells #[Value.bool t, Value.slice q m mc] 50)).alloc (Obj.cells #[Value.bool false, Value.slice none 0 0] 50)).heap.size = w.heap.size + 1 + 1 + 1 := by simp
  have hX3 := boxes3' w (.bool s) (.slice p n nc) (.bool t) (.slice q m mc) (.bool false) (.slice none 0 0) 50 50 50
  generalize ((w.alloc (Obj.cells #[Value.bool s, Value.slice p n nc] 50)).alloc (Obj.cells #[Value.bool t, Value.slice q m mc] 50)).alloc (Obj.cells #[Value.bool false, Value.slice none 0 0] 50) = W at *
  have hXW := hX.below hX3.below
  have hYW := hY.below hX3.below
  have HWs : Hid (W.heap.size = w.heap.size + 1 + 1 + 1) := hWs
  clear hWs
  have hbel : Below W.heap.size W (W.alloc (.cells (ca .i64 (zeros (n + m + 1))) 3)) := (Below.refl _ _).alloc (Nat.le_refl _) _
  generalize W.alloc (.cells (ca .i64 (zeros (n + m + 1))) 3) = W1 at *
  have HST : Hid (Row W1 (w.heap.size + 1 + 1 + 1) 3 .i64 (zeros (n + m + 1)) ∧ Below W.heap.size W W1) := ⟨hrow, hbel⟩
  clear hrow hbel hmk
  go_loopw [6] (fun iv wr => ∃ (i : Nat) (D : List Int), i ≤ n ∧ iv = .int .i64 i ∧ Hid (D.length = n + m + 1 ∧ U16 D ∧ vd D = vd (xs.take i) * vd ys ∧ Row wr (w.heap.size + 1 + 1 + 1) 3 .i64 D ∧ Below W.heap.size W wr)) (fun iv _ => n - (intOf iv).toNat)
  case atStart => exact ⟨0, zeros (n + m + 1), Nat.zero_le _, rfl, length_zeros _, u16_zeros _, by simp [vd_zero, vd], HST.out.1, HST.out.2⟩
  case round =>
    obtain ⟨i, D, hi, rfl, H⟩ := hrel
    have hXr := hX3.later H.out.2.2.2.2
    have k1 := hXr.ca1
    have k3 := hXr.cb1
    by_cases hlt : i < n
    · have hltI : (i : Int) < (n : Int) := by omega
      clear hXr
      go_wp2
      go_loopw [7, 8] (fun cv jv wr' => ∃ (j : Nat) (c : Int) (T : List Int), j ≤ m ∧ jv = .int .i64 j ∧ cv = .int .i64 c ∧ 0 ≤ c ∧ c < 65536 ∧ Hid (T.length = n + m + 1 ∧ U16 T ∧ vd T + pd (i + j) * c = vd D + pd i * (gx xs i * vd (ys.take j)) ∧ Row wr' (w.heap.size + 1 + 1 + 1) 3 .i64 T ∧ Below W.heap.size W wr')) (fun _ jv _ => m - (intOf jv).toNat)
      case atStart =>
        obtain ⟨hl, hu, hv, hr, hg⟩ := H.out
        exact ⟨0, 0, D, Nat.zero_le _, rfl, rfl, by decide, by decide, hl, hu, by simp [vd], hr, hg⟩
      case round =>
        obtain ⟨j, c, T, hj, rfl, rfl, hc0, hc1, HT⟩ := hrel
        clear k1 k3
        have hXr := hX3.later HT.out.2.2.2.2
        have k1 := hXr.ca1
        have k3 := hXr.cb1
        clear hXr
        by_cases hjm : j < m
        · have hjI : (j : Int) < (m : Int) := by omega
          have hijI : (i : Int) + (j : Int) < (n : Int) + (m : Int) + 1 := by omega
          obtain ⟨b1, o1, rfl, hc1'⟩ := (hXW.below HT.out.2.2.2.2) (by have := HN.out; omega)
          obtain ⟨b2, o2, rfl, hc2'⟩ := (hYW.below HT.out.2.2.2.2) (by have := HN.out; omega)
          have g1 := hc1' i (by have := HN.out; omega)
          have g2 := hc2' j (by have := HN.out; omega)
          have g3 := HT.out.2.2.2.1.cell (i + j) (by have := HT.out.1; omega)
          have g4 := HT.out.2.2.2.1.frozen (i + j)
          obtain ⟨bt0, bt1⟩ := HT.out.2.1 (i + j)
          obtain ⟨bm0, bm1⟩ := mul_bd16 (hXu i) (hYu j)
          obtain ⟨bx0, bx1⟩ := hXu i
          obtain ⟨by0, by1⟩ := hYu j
          have q1 : (c + (gx T (i + j) + gx xs i * gx ys j)).tmod 65536 = (c + (gx T (i + j) + gx xs i * gx ys j)) % 65536 := Int.tmod_eq_emod_of_nonneg (by omega)
          have q2 : (c + (gx T (i + j) + gx xs i * gx ys j)).tdiv 65536 = (c + (gx T (i + j) + gx xs i * gx ys j)) / 65536 := Int.tdiv_eq_ediv_of_nonneg (by omega)
          have v0 : IntKind.i64.wrap ((i : Int) + (j : Int)) = (i : Int) + (j : Int) := by rw [IntKind.wrap_i64]; omega
          have v1 : IntKind.i64.wrap (gx xs i * gx ys j) = gx xs i * gx ys j := by rw [IntKind.wrap_i64]; omega
          have v2 : IntKind.i64.wrap (gx T (i + j) + gx xs i * gx ys j) = gx T (i + j) + gx xs i * gx ys j := by rw [IntKind.wrap_i64]; omega
          have v3 : IntKind.i64.wrap (c + (gx T (i + j) + gx xs i * gx ys j)) = c + (gx T (i + j) + gx xs i * gx ys j) := by rw [IntKind.wrap_i64]; omega
          have v4 : ((i : Int) + (j : Int)).toNat = i + j := by omega
          have v5 : 0 ≤ (i : Int) + (j : Int) := by omega
          clear hc1' hc2'
          go_wp2_with fail
          go_quiet (fail)
          go_wp2_with fail
          have hsW := HWs.out
          obtain ⟨hl, hu, hv, hr, hg⟩ := HT.out
          have hr' : Row (wr.drewN nq) (w.heap.size + 1 + 1 + 1) 3 .i64 T := hr
          refine ⟨⟨j + 1, _, T.set (i + j) ((c + (gx T (i + j) + gx xs i * gx ys j)) % 65536), by omega, by go_num, rfl, by omega, by omega, by rw [List.length_set]; exact hl, u16_set hu _ (by omega), ?_, hr'.set (i + j) _, (below_drewN hg nq).setCell (by simp only; omega) _⟩, by simp [intOf]; omega⟩
          rw [vd_set T _ _ (by omega), vd_take_succ ys j, ← Nat.add_assoc, pd_succ]
          have e := cut16 (pd (i + j)) (c + (gx T (i + j) + gx xs i * gx ys j))
          have e2 : pd i * (gx xs i * (vd (List.take j ys) + pd j * gx ys j)) = pd i * (gx xs i * vd (List.take j ys)) + pd (i + j) * (gx xs i * gx ys j) := by
            rw [pd_add, Int.mul_add, Int.mul_add]
            congr 1
            simp only [Int.mul_assoc, Int.mul_left_comm]
          rw [e2]
          simp only [Int.mul_add, Int.mul_sub] at e ⊢
          omega
        · obtain rfl : j = m := by omega
          have hjI : ¬ (j : Int) < (j : Int) := by omega
          have v0 : IntKind.i64.wrap ((i : Int) + (j : Int)) = (i : Int) + (j : Int) := by rw [IntKind.wrap_i64]; omega
          go_wp2
          go_loopw [7, 9] (fun cv kv wr' => ∃ (k : Nat) (c : Int) (T : List Int), i + j ≤ k ∧ k ≤ n + j + 1 ∧ kv = .int .i64 k ∧ cv = .int .i64 c ∧ 0 ≤ c ∧ c < 65536 ∧ Hid (T.length = n + j + 1 ∧ U16 T ∧ vd T + pd k * c = vd (xs.take (i + 1)) * vd ys ∧ Row wr' (w.heap.size + 1 + 1 + 1) 3 .i64 T ∧ Below W.heap.size W wr')) (fun _ kv _ => n + j + 1 - (intOf kv).toNat)
          case atStart =>
            obtain ⟨hl, hu, hv, hr, hg⟩ := HT.out
            refine ⟨i + j, c, T, Nat.le_refl _, by omega, by go_num, rfl, hc0, hc1, hl, hu, ?_, hr, hg⟩
            rw [hv, H.out.2.2.1, List.take_of_length_le (l := ys) (by have := HN.out; omega), vd_take_succ, Int.add_mul, Int.mul_assoc]
          case round =>
            obtain ⟨k, c2, T2, hk1, hk2, rfl, rfl, hd0, hd1, HT2⟩ := hrel
            by_cases hc : 0 < c2
            · have hkL : k < n + j + 1 := by
                rcases Nat.lt_or_ge k (n + j + 1) with h | h
                · exact h
                · exfalso
                  obtain ⟨hl, hu, hv, hr, hg⟩ := HT2.out
                  have e1 := mul_lt_pd (i := n) (j := j) (u16_take hXu (i + 1)) hYu (by have := HN.out; simp; omega) (by have := HN.out; omega)
                  have e2 : pd (n + j) ≤ pd k := pd_mono (by omega)
                  have e3 := vd_nonneg hu
                  have e4 : pd k * 1 ≤ pd k * c2 := Int.mul_le_mul_of_nonneg_left (by omega) (Int.le_of_lt (pd_pos k))
                  omega
              have hkI : (k : Int) < (n : Int) + (j : Int) + 1 := by omega
              have g3 := HT2.out.2.2.2.1.cell k (by have := HT2.out.1; omega)
              have g4 := HT2.out.2.2.2.1.frozen k
              obtain ⟨bt0, bt1⟩ := HT2.out.2.1 k
              have q1 : (c2 + gx T2 k).tmod 65536 = (c2 + gx T2 k) % 65536 := Int.tmod_eq_emod_of_nonneg (by omega)
              have q2 : (c2 + gx T2 k).tdiv 65536 = (c2 + gx T2 k) / 65536 := Int.tdiv_eq_ediv_of_nonneg (by omega)
              go_wp2
              have hsW := HWs.out
              obtain ⟨hl, hu, hv, hr, hg⟩ := HT2.out
              refine ⟨⟨k + 1, _, T2.set k ((c2 + gx T2 k) % 65536), by omega, by omega, by go_num, rfl, by omega, by omega, by rw [List.length_set]; exact hl, u16_set hu _ (by omega), ?_, hr.set k _, hg.setCell (by simp only; omega) _⟩, by simp [intOf]; omega⟩
              rw [vd_set T2 _ _ (by omega), pd_succ, ← hv]
              have e := cut16 (pd k) (c2 + gx T2 k)
              simp only [Int.mul_add, Int.mul_sub] at e ⊢
              omega
            · obtain rfl : c2 = 0 := by omega
              go_wp2
              obtain ⟨hl, hu, hv, hr, hg⟩ := HT2.out
              rw [Int.mul_zero, Int.add_zero] at hv
              refine ⟨⟨i + 1, T2, by omega, by go_num, hl, hu, hv, hr, hg⟩, by simp [intOf]; omega⟩
    · obtain rfl : i = n := by omega
      have hltI : ¬ (i : Int) < (i : Int) := by omega
      have k0 := hXr.ca0
      have k2 := hXr.cb0
      clear hXr
      go_wp2_with fail
      obtain ⟨hl, hu, hv, hr, hg⟩ := H.out
      have hXe := hX3.later hg
      refine (rtrim_any (!(s == t)) (some ⟨w.heap.size + 1 + 1 + 1, 0, none⟩) (i + m + 1) (i + m + 1) D _ hl (Nat.le_refl _) (by unfold maxLen; omega) hr.rd_all).mono ?_
      rintro e w4 ⟨rfl, hb4⟩
      have HE : Hid (D.length = i + m + 1 ∧ vd D = vd (xs.take i) * vd ys) := ⟨hl, hv⟩
      clear hl hv k0 k1 k2 k3
      obtain ⟨c0', c1', f0, f1⟩ := resbox hb4 hXe.cr0 hXe.cr1 hXe.fr0 hXe.fr1
      go_wp2
      have hsz := hX3.size
      have hsW := HWs.out
      refine bodyPost_ret (v := .agg #[.bool (nsg (!(s == t)) D), .slice (some ⟨w.heap.size + 1 + 1 + 1, 0, none⟩) (tlen D) (tlen D)]) (by simp [results, Tryz.results29, go_sem, c0', c1']) rfl ?_
      refine end_rn2 hX3.below (r := w.heap.size + 1 + 1) (by omega) (by omega) hg hb4 hr.rd_all (from_new (by omega)) hu (by have := HE.out.1; omega) (by omega) ?_
      have hv := HE.out.2
      rw [List.take_of_length_le (by have := HN.out; omega)] at hv
      rw [rval, hv, rval, rval]
      cases s <;> cases t <;> simp [Int.neg_mul, Int.mul_neg]
theorem rMul_rn {w : World} {s t : Bool} {p q : Option Addr} {n m : Nat} {xs ys : List Int} (h : RN w s p n xs) (k : RN w t q m ys) (hn : n ≤ 1000000) (hm : m ≤ 1000000) :
    Calls Tryz.prog 29 #[.agg #[.bool s, .slice p n n], .agg #[.bool t, .slice q m m]] w (RAns (n + m + 1) (rval s xs * rval t ys) w) :=
  rMul_any s t p q n n m m xs ys w h.len k.len hn hm h.rd h.u k.rd k.u
section
variable {w w' : World} {N M K : Nat} {z x y : Int} {s t : Bool} {p q : Option Addr} {n m : Nat}
theorem rMul_v (h : RV w N x s p n) (k : RV w M y t q m) (hN : N ≤ 1000) (hM : M ≤ 1000) :
    Calls Tryz.prog 29 #[.agg #[.bool s, .slice p n n], .agg #[.bool t, .slice q m m]] w (RVP (N + M + 1) (x * y) w) := by
  obtain ⟨ds, h1, rfl, h3⟩ := h
  obtain ⟨es, k1, rfl, k3⟩ := k
  refine (rMul_rn h1 k1 (by omega) (by omega)).mono ?_
  rintro e w' ⟨s', p', n', ds', g1, g2, g3, g4, g5, g6⟩
  exact ⟨s', p', n', g1, ⟨ds', g2, g3, by omega⟩, g5, g6⟩
end
theorem rMul_e {w : World} {N M : Nat} {x y : Int} {e f : Ent} (h : RE w N x e) (k : RE w M y f) (hN : N ≤ 1000) (hM : M ≤ 1000) :
    Calls Tryz.prog 29 #[.agg #[.bool e.s, .slice e.p e.n e.c], .agg #[.bool f.s, .slice f.p f.n f.c]] w fun r w' => ∃ u : Ent, r = .returned (.agg #[.bool u.s, .slice u.p u.n u.c]) ∧ RE w' (N + M + 1) (x * y) u ∧ Go.Proofs.YtkjpeehbhmcojaaGreatDoor.From w.heap.size u.p ∧ Below w.heap.size w w' := by
  obtain ⟨h1, h4⟩ := h
  obtain ⟨k1, k4⟩ := k
  rw [h4, k4]
  refine (rMul_v h1 k1 hN hM).mono ?_
  rintro r w' ⟨s', p', n', g1, g2, g3, g4⟩
  exact ⟨⟨s', p', n', n'⟩, g1, ⟨g2, rfl⟩, g3, g4⟩
set_option maxRecDepth 100000 in
theorem rpAt_in {w : World} {N : Nat} {p : Option Addr} {n nc : Nat} {es : List Ent} {zs : List Int} (h : PR w N p n nc es zs) (i : Nat) (hi : i < n) (hn : n ≤ 1000000) :
    Calls Tryz.prog 74 #[.slice p n nc, .int .i64 i] w fun r w' => r = .returned (.agg #[.bool (ge es i).s, .slice (ge es i).p (ge es i).n (ge es i).c]) ∧ Below w.heap.size w w' := by
  have hel := h.el
  have hal := bel_al (o := .cells #[.bool false, .slice none 0 0] 50) (Below.refl w.heap.size w)
  have hX : Bx (w.alloc (.cells #[.bool false, .slice none 0 0] 50)) w.heap.size (.bool false) (.slice none 0 0) := Bx.new _ _ _ rfl
  obtain ⟨b, o, hp, hc⟩ := (h.below hal).pl (by omega)
  subst hp
  obtain ⟨c0, c1⟩ := hc i (by omega)
  have i1 : (i : Int) < (n : Int) := by omega
  have i2 : ¬ (i : Int) < 0 := by omega
  have i3 : ¬ (n : Int) ≤ (i : Int) := by omega
  obtain ⟨r0, r1, f0, f1⟩ := id hX
  clear hc h
  go_enter Tryz.func74, Tryz.ntmps74
  go_upto_region 1 with fail
  generalize w.alloc (.cells #[.bool false, .slice none 0 0] 50) = W at *
  go_wp2
  refine bodyPost_ret (v := .agg #[.bool (ge es i).s, .slice (ge es i).p (ge es i).n (ge es i).c]) (by simp [results, Tryz.results74, go_sem, r0, r1]) rfl ⟨rfl, ?_⟩
  exact bset2 hal (Nat.le_refl _) _ _
theorem rOf_e (a : Int) (w : World) (h0 : 0 ≤ a) (h1 : a ≤ 9223372036854775807) :
    Calls Tryz.prog 72 #[.int .i64 a] w fun r w' => ∃ u : Ent, r = .returned (.agg #[.bool u.s, .slice u.p u.n u.c]) ∧ RE w' 4 a u ∧ Go.Proofs.YtkjpeehbhmcojaaGreatDoor.From w.heap.size u.p ∧ Below w.heap.size w w' := by
  refine (rOf_any a w (by omega) h1).mono ?_
  rintro e w1 ⟨s1, p1, n1, d1, rfl, hR1, hv1, hn1, hF1, hb1⟩
  exact ⟨⟨s1, p1, n1, n1⟩, rfl, ⟨⟨d1, hR1, hv1, hn1⟩, rfl⟩, hF1, hb1⟩
def DAns (N : Nat) (v : Int) (w : World) (e : Ending) (w' : World) : Prop :=
  ∃ q k cap D, e = .returned (.slice q k cap) ∧ D.length = k ∧ k ≤ cap ∧ cap ≤ maxLen ∧ Rd w' q .i64 D ∧ U16 D ∧ vd D = v ∧ k ≤ N ∧ Go.Proofs.YtkjpeehbhmcojaaGreatDoor.From w.heap.size q ∧ Below w.heap.size w w'
set_option maxRecDepth 100000 in
theorem radd_any (p q : Option Addr) (n nc m mc : Nat) (xs ys : List Int) (w : World) (hn : xs.length = n) (hm : ys.length = m) (hnb : n ≤ 1000000) (hmb : m ≤ 1000000)
    (hX : Rd w p .i64 xs) (hXu : U16 xs) (hY : Rd w q .i64 ys) (hYu : U16 ys) :
    Calls Tryz.prog 67 #[.slice p n nc, .slice q m mc] w (DAns (n + m + 1) (vd xs + vd ys) w) := by
  obtain ⟨i0, hi, hzz⟩ := Option.map_eq_some_iff.1 info_int
  simp only [Prod.mk.injEq] at hzz
  obtain ⟨hz0, hz1, hz2⟩ := hzz
  have HI : Hid (Tryz.prog.info? 3 = some i0 ∧ i0.zero = some (.int .i64 0) ∧ i0.size = 1 ∧ i0.bytes = 8) := ⟨hi, hz0, hz1, hz2⟩
  clear hi hz0 hz1 hz2
  have HN : Hid (xs.length = n ∧ ys.length = m) := ⟨hn, hm⟩
  clear hn hm
  go_enter Tryz.func67, Tryz.ntmps67
  go_wp2
  go_loopw [5, 6, 7] (fun dv cv iv wr => ∃ (k : Nat) (c : Int) (ds : List Int), k ≤ n + m + 1 ∧ iv = .int .i64 k ∧ cv = .int .i64 c ∧ 0 ≤ c ∧ c ≤ 1 ∧ (k ≤ n ∨ k ≤ m ∨ c = 0) ∧ ds.length = k ∧ Hid (vd ds + pd k * c = vd (xs.take k) + vd (ys.take k) ∧ U16 ds ∧ wr.ownsRow w.heap.size 3 1 dv k (ds.map (Value.int .i64)) ∧ Below w.heap.size w wr)) (fun _ _ iv _ => n + m + 2 - (intOf iv).toNat)
  case atStart => exact ⟨0, 0, [], Nat.zero_le _, rfl, rfl, by decide, by decide, .inl (Nat.zero_le _), rfl, by simp [vd], u16_nil, World.ownsRow_nil _ _ _ _, Below.refl _ _⟩
  case round =>
    obtain ⟨k, c, ds, hk, rfl, rfl, hc0, hc1, hkc, hkl, H⟩ := hrel
    have hBr := H.out.2.2.2
    have HV : Hid (vd ds + pd k * c = vd (xs.take k) + vd (ys.take k) ∧ U16 ds) := ⟨H.out.1, H.out.2.1⟩
    have HO : Hid (wr.ownsRow w.heap.size 3 1 u5 k (ds.map (Value.int .i64))) := H.out.2.2.1
    have HL : Hid (ds.length = k) := hkl
    clear H hkl
    obtain ⟨x0, x1⟩ := hXu k
    obtain ⟨y0, y1⟩ := hYu k
    obtain ⟨hi, hz0, hz1, hz2⟩ := HI.out
    by_cases h1 : k < n
    · have h1I : (k : Int) < (n : Int) := by omega
      obtain ⟨b, off, rfl, hcell⟩ := (hX.below hBr) (by have := HN.out; omega)
      have hck := hcell k (by have := HN.out; omega)
      clear hcell
      by_cases h2 : k < m
      · have h2I : (k : Int) < (m : Int) := by omega
        obtain ⟨b2, off2, rfl, hcell⟩ := (hY.below hBr) (by have := HN.out; omega)
        have hck2 := hcell k (by have := HN.out; omega)
        clear hcell
        have q1 : (c + gx xs k + gx ys k).tmod 65536 = (c + gx xs k + gx ys k) % 65536 := Int.tmod_eq_emod_of_nonneg (by omega)
        have q2 : (c + gx xs k + gx ys k).tdiv 65536 = (c + gx xs k + gx ys k) / 65536 := Int.tdiv_eq_ediv_of_nonneg (by omega)
        go_wp2_with (refine wpList_append_lies _ rfl _ _ 48 rfl w.heap.size 3 i0 (.int .i64 0) 1 8 Tryz.underlying48 hi hz0 hz1 hz2 rfl (by decide) u5 k (ds.map (Value.int .i64)) rfl (HO.out.alloc _) ⟨wr.heap.size, 0, none⟩ 1 1 [.int .i64 ((c + gx xs k + gx ys k) % 65536)] rfl rfl ?_ (fun x hx => by simp at hx; subst hx; rfl) (by decide) (by unfold maxLen; omega) (by omega) (by have := hBr.size; simp; omega) _ rfl ?_; exact World.news_of_block (heap_alloc_new wr _); intro g cap w3 hown3 hgrow3 hat3 hlt3; have hB3 : Below w.heap.size w w3 := (bel_alw hBr).grown hgrow3 (by have := hBr.size; simp; omega) (fun q hq => (HO.out.lt q hq).1))
        refine ⟨⟨k + 1, (c + gx xs k + gx ys k) / 65536, ds ++ [(c + gx xs k + gx ys k) % 65536], by omega, by go_num, by go_num, by omega, by omega, by omega, by have := HL.out; simp; omega, ?_, u16_append HV.out.2 (u16_one (by omega)), ?_, hB3⟩, by simp [intOf]; omega⟩
        · have e := cut16 (pd k) (c + gx xs k + gx ys k)
          have e0 := HV.out.1
          rw [vd_append, vd_one, pd_succ, HL.out, vd_take_succ, vd_take_succ]
          simp only [Int.mul_add] at e ⊢
          omega
        · rw [List.map_append]
          exact hown3
      · have h2I : ¬ (k : Int) < (m : Int) := by omega
        have q1 : (c + gx xs k).tmod 65536 = (c + gx xs k) % 65536 := Int.tmod_eq_emod_of_nonneg (by omega)
        have q2 : (c + gx xs k).tdiv 65536 = (c + gx xs k) / 65536 := Int.tdiv_eq_ediv_of_nonneg (by omega)
        have hy0 : Hid (gx ys k = 0) := gx_past ys m (by have := HN.out; omega) k (by omega)
        go_wp2_with (refine wpList_append_lies _ rfl _ _ 48 rfl w.heap.size 3 i0 (.int .i64 0) 1 8 Tryz.underlying48 hi hz0 hz1 hz2 rfl (by decide) u5 k (ds.map (Value.int .i64)) rfl (HO.out.alloc _) ⟨wr.heap.size, 0, none⟩ 1 1 [.int .i64 ((c + gx xs k) % 65536)] rfl rfl ?_ (fun x hx => by simp at hx; subst hx; rfl) (by decide) (by unfold maxLen; omega) (by omega) (by have := hBr.size; simp; omega) _ rfl ?_; exact World.news_of_block (heap_alloc_new wr _); intro g cap w3 hown3 hgrow3 hat3 hlt3; have hB3 : Below w.heap.size w w3 := (bel_alw hBr).grown hgrow3 (by have := hBr.size; simp; omega) (fun q hq => (HO.out.lt q hq).1))
        refine ⟨⟨k + 1, (c + gx xs k) / 65536, ds ++ [(c + gx xs k) % 65536], by omega, by go_num, by go_num, by omega, by omega, by omega, by have := HL.out; simp; omega, ?_, u16_append HV.out.2 (u16_one (by omega)), ?_, hB3⟩, by simp [intOf]; omega⟩
        · have e := cut16 (pd k) (c + gx xs k)
          have e0 := HV.out.1
          rw [vd_append, vd_one, pd_succ, HL.out, vd_take_succ, vd_take_succ]
          rw [hy0.out, Int.mul_zero, Int.add_zero]; simp only [Int.mul_add] at e ⊢
          omega
        · rw [List.map_append]
          exact hown3
    · have h1I : ¬ (k : Int) < (n : Int) := by omega
      have hx0 : Hid (gx xs k = 0) := gx_past xs n (by have := HN.out; omega) k (by omega)
      by_cases h2 : k < m
      · have h2I : (k : Int) < (m : Int) := by omega
        obtain ⟨b2, off2, rfl, hcell⟩ := (hY.below hBr) (by have := HN.out; omega)
        have hck2 := hcell k (by have := HN.out; omega)
        clear hcell
        have q1 : (c + gx ys k).tmod 65536 = (c + gx ys k) % 65536 := Int.tmod_eq_emod_of_nonneg (by omega)
        have q2 : (c + gx ys k).tdiv 65536 = (c + gx ys k) / 65536 := Int.tdiv_eq_ediv_of_nonneg (by omega)
        go_wp2_with (refine wpList_append_lies _ rfl _ _ 48 rfl w.heap.size 3 i0 (.int .i64 0) 1 8 Tryz.underlying48 hi hz0 hz1 hz2 rfl (by decide) u5 k (ds.map (Value.int .i64)) rfl (HO.out.alloc _) ⟨wr.heap.size, 0, none⟩ 1 1 [.int .i64 ((c + gx ys k) % 65536)] rfl rfl ?_ (fun x hx => by simp at hx; subst hx; rfl) (by decide) (by unfold maxLen; omega) (by omega) (by have := hBr.size; simp; omega) _ rfl ?_; exact World.news_of_block (heap_alloc_new wr _); intro g cap w3 hown3 hgrow3 hat3 hlt3; have hB3 : Below w.heap.size w w3 := (bel_alw hBr).grown hgrow3 (by have := hBr.size; simp; omega) (fun q hq => (HO.out.lt q hq).1))
        refine ⟨⟨k + 1, (c + gx ys k) / 65536, ds ++ [(c + gx ys k) % 65536], by omega, by go_num, by go_num, by omega, by omega, by omega, by have := HL.out; simp; omega, ?_, u16_append HV.out.2 (u16_one (by omega)), ?_, hB3⟩, by simp [intOf]; omega⟩
        · have e := cut16 (pd k) (c + gx ys k)
          have e0 := HV.out.1
          rw [vd_append, vd_one, pd_succ, HL.out, vd_take_succ, vd_take_succ]
          rw [hx0.out, Int.mul_zero, Int.add_zero]; simp only [Int.mul_add] at e ⊢
          omega
        · rw [List.map_append]
          exact hown3
      · have h2I : ¬ (k : Int) < (m : Int) := by omega
        have hy0 : Hid (gx ys k = 0) := gx_past ys m (by have := HN.out; omega) k (by omega)
        by_cases h3 : 0 < c
        · obtain rfl : c = 1 := by omega
          go_wp2_with (refine wpList_append_lies _ rfl _ _ 48 rfl w.heap.size 3 i0 (.int .i64 0) 1 8 Tryz.underlying48 hi hz0 hz1 hz2 rfl (by decide) u5 k (ds.map (Value.int .i64)) rfl (HO.out.alloc _) ⟨wr.heap.size, 0, none⟩ 1 1 [.int .i64 (1)] rfl rfl ?_ (fun x hx => by simp at hx; subst hx; rfl) (by decide) (by unfold maxLen; omega) (by omega) (by have := hBr.size; simp; omega) _ rfl ?_; exact World.news_of_block (heap_alloc_new wr _); intro g cap w3 hown3 hgrow3 hat3 hlt3; have hB3 : Below w.heap.size w w3 := (bel_alw hBr).grown hgrow3 (by have := hBr.size; simp; omega) (fun q hq => (HO.out.lt q hq).1))
          refine ⟨⟨k + 1, 0, ds ++ [1], by omega, by go_num, rfl, by decide, by decide, .inr (.inr rfl), by have := HL.out; simp; omega, ?_, u16_append HV.out.2 (u16_one (by decide)), ?_, hB3⟩, by simp [intOf]; omega⟩
          · have e0 := HV.out.1
            rw [vd_append, vd_one, pd_succ, HL.out, vd_take_succ, vd_take_succ, hx0.out, hy0.out]
            omega
          · rw [List.map_append]
            exact hown3
        · obtain rfl : c = 0 := by omega
          have hform : ∃ q' cap, u5 = .slice q' k cap ∧ k ≤ cap ∧ cap ≤ maxLen ∧ Rd wr q' .i64 ds ∧ Go.Proofs.YtkjpeehbhmcojaaGreatDoor.From w.heap.size q' := by
            have hown := HO.out
            rcases hown.2 with ⟨h1, h2⟩ | ⟨g, cap, cur, h1, hbg, _, h4, h5, _⟩
            · refine ⟨none, 0, by rw [h1, h2], by omega, Nat.zero_le _, ?_, from_none⟩
              have : ds = [] := List.eq_nil_of_length_eq_zero (by have := HL.out; omega)
              rw [this]; exact Rd.nil
            · subst h1
              exact ⟨_, cap, rfl, h4, h5, rd_owns hown, from_new hbg⟩
          obtain ⟨q', cap, rfl, hq1, hq2, hq3, hq4⟩ := hform
          go_wp2
          go_ret
          have e0 := HV.out.1
          rw [Int.mul_zero, Int.add_zero, List.take_of_length_le (by have := HN.out; omega), List.take_of_length_le (by have := HN.out; omega)] at e0
          exact ⟨q', k, cap, ds, rfl, HL.out, hq1, hq2, hq3, HV.out.2, e0, hk, hq4, hBr⟩
set_option maxRecDepth 100000 in
theorem rsub_any (p q : Option Addr) (n nc m mc : Nat) (xs ys : List Int) (w : World) (hn : xs.length = n) (hm : ys.length = m) (hnb : n ≤ 1000000) (hmn : m ≤ n) (hge : vd ys ≤ vd xs)
    (hX : Rd w p .i64 xs) (hXu : U16 xs) (hY : Rd w q .i64 ys) (hYu : U16 ys) :
    Calls Tryz.prog 69 #[.slice p n nc, .slice q m mc] w (DAns n (vd xs - vd ys) w) := by
  obtain ⟨i0, hi, hzz⟩ := Option.map_eq_some_iff.1 info_int
  simp only [Prod.mk.injEq] at hzz
  obtain ⟨hz0, hz1, hz2⟩ := hzz
  have HI : Hid (Tryz.prog.info? 3 = some i0 ∧ i0.zero = some (.int .i64 0) ∧ i0.size = 1 ∧ i0.bytes = 8) := ⟨hi, hz0, hz1, hz2⟩
  clear hi hz0 hz1 hz2
  have HN : Hid (xs.length = n ∧ ys.length = m) := ⟨hn, hm⟩
  clear hn hm
  go_enter Tryz.func69, Tryz.ntmps69
  go_wp2
  go_loopw [5, 6, 7, 8] (fun dv cv iv nv wr => ∃ (k : Nat) (c : Int) (ds : List Int), k ≤ n ∧ iv = .int .i64 k ∧ cv = .int .i64 c ∧ 0 ≤ c ∧ c ≤ 1 ∧ ds.length = k ∧ Hid (vd ds - pd k * c = vd (xs.take k) - vd (ys.take k) ∧ U16 ds ∧ wr.ownsRow w.heap.size 3 1 dv k (ds.map (Value.int .i64)) ∧ Below w.heap.size w wr)) (fun _ _ iv _ _ => n - (intOf iv).toNat)
  case atStart => exact ⟨0, 0, [], Nat.zero_le _, rfl, rfl, by decide, by decide, rfl, by simp [vd], u16_nil, World.ownsRow_nil _ _ _ _, Below.refl _ _⟩
  case round =>
    obtain ⟨k, c, ds, hk, rfl, rfl, hc0, hc1, hkl, H⟩ := hrel
    have hBr := H.out.2.2.2
    have HV : Hid (vd ds - pd k * c = vd (xs.take k) - vd (ys.take k) ∧ U16 ds) := ⟨H.out.1, H.out.2.1⟩
    have HO : Hid (wr.ownsRow w.heap.size 3 1 u5 k (ds.map (Value.int .i64))) := H.out.2.2.1
    have HL : Hid (ds.length = k) := hkl
    clear H hkl
    obtain ⟨x0, x1⟩ := hXu k
    obtain ⟨y0, y1⟩ := hYu k
    obtain ⟨hi, hz0, hz1, hz2⟩ := HI.out
    by_cases h1 : k < n
    · have h1I : (k : Int) < (n : Int) := by omega
      obtain ⟨b, off, rfl, hcell⟩ := (hX.below hBr) (by have := HN.out; omega)
      have hck := hcell k (by have := HN.out; omega)
      clear hcell
      by_cases h2 : k < m
      · have h2I : (k : Int) < (m : Int) := by omega
        obtain ⟨b2, off2, rfl, hcell⟩ := (hY.below hBr) (by have := HN.out; omega)
        have hck2 := hcell k (by have := HN.out; omega)
        clear hcell
        by_cases h3 : gx xs k - c - gx ys k < 0
        · go_wp2_with (refine wpList_append_lies _ rfl _ _ 48 rfl w.heap.size 3 i0 (.int .i64 0) 1 8 Tryz.underlying48 hi hz0 hz1 hz2 rfl (by decide) u5 k (ds.map (Value.int .i64)) rfl (HO.out.alloc _) ⟨wr.heap.size, 0, none⟩ 1 1 [.int .i64 (gx xs k - c - gx ys k + 65536)] rfl rfl ?_ (fun x hx => by simp at hx; subst hx; rfl) (by decide) (by unfold maxLen; omega) (by omega) (by have := hBr.size; simp; omega) _ rfl ?_; exact World.news_of_block (heap_alloc_new wr _); intro g cap w3 hown3 hgrow3 hat3 hlt3; have hB3 : Below w.heap.size w w3 := (bel_alw hBr).grown hgrow3 (by have := hBr.size; simp; omega) (fun q hq => (HO.out.lt q hq).1))
          refine ⟨⟨k + 1, 1, ds ++ [gx xs k - c - gx ys k + 65536], by omega, by go_num, rfl, by decide, by decide, by have := HL.out; simp; omega, ?_, u16_append HV.out.2 (u16_one (by omega)), ?_, hB3⟩, by simp [intOf]; omega⟩
          · have e0 := HV.out.1
            rw [vd_append, vd_one, pd_succ, HL.out, vd_take_succ, vd_take_succ]
            simp only [Int.mul_add, Int.mul_sub] at e0 ⊢
            omega
          · rw [List.map_append]
            exact hown3
        · go_wp2_with (refine wpList_append_lies _ rfl _ _ 48 rfl w.heap.size 3 i0 (.int .i64 0) 1 8 Tryz.underlying48 hi hz0 hz1 hz2 rfl (by decide) u5 k (ds.map (Value.int .i64)) rfl (HO.out.alloc _) ⟨wr.heap.size, 0, none⟩ 1 1 [.int .i64 (gx xs k - c - gx ys k)] rfl rfl ?_ (fun x hx => by simp at hx; subst hx; rfl) (by decide) (by unfold maxLen; omega) (by omega) (by have := hBr.size; simp; omega) _ rfl ?_; exact World.news_of_block (heap_alloc_new wr _); intro g cap w3 hown3 hgrow3 hat3 hlt3; have hB3 : Below w.heap.size w w3 := (bel_alw hBr).grown hgrow3 (by have := hBr.size; simp; omega) (fun q hq => (HO.out.lt q hq).1))
          refine ⟨⟨k + 1, 0, ds ++ [gx xs k - c - gx ys k], by omega, by go_num, rfl, by decide, by decide, by have := HL.out; simp; omega, ?_, u16_append HV.out.2 (u16_one (by omega)), ?_, hB3⟩, by simp [intOf]; omega⟩
          · have e0 := HV.out.1
            rw [vd_append, vd_one, pd_succ, HL.out, vd_take_succ, vd_take_succ]
            simp only [Int.mul_add, Int.mul_sub] at e0 ⊢
            omega
          · rw [List.map_append]
            exact hown3
      · have h2I : ¬ (k : Int) < (m : Int) := by omega
        have hy0 : Hid (gx ys k = 0) := gx_past ys m (by have := HN.out; omega) k (by omega)
        by_cases h3 : gx xs k - c < 0
        · go_wp2_with (refine wpList_append_lies _ rfl _ _ 48 rfl w.heap.size 3 i0 (.int .i64 0) 1 8 Tryz.underlying48 hi hz0 hz1 hz2 rfl (by decide) u5 k (ds.map (Value.int .i64)) rfl (HO.out.alloc _) ⟨wr.heap.size, 0, none⟩ 1 1 [.int .i64 (gx xs k - c + 65536)] rfl rfl ?_ (fun x hx => by simp at hx; subst hx; rfl) (by decide) (by unfold maxLen; omega) (by omega) (by have := hBr.size; simp; omega) _ rfl ?_; exact World.news_of_block (heap_alloc_new wr _); intro g cap w3 hown3 hgrow3 hat3 hlt3; have hB3 : Below w.heap.size w w3 := (bel_alw hBr).grown hgrow3 (by have := hBr.size; simp; omega) (fun q hq => (HO.out.lt q hq).1))
          refine ⟨⟨k + 1, 1, ds ++ [gx xs k - c + 65536], by omega, by go_num, rfl, by decide, by decide, by have := HL.out; simp; omega, ?_, u16_append HV.out.2 (u16_one (by omega)), ?_, hB3⟩, by simp [intOf]; omega⟩
          · have e0 := HV.out.1
            rw [vd_append, vd_one, pd_succ, HL.out, vd_take_succ, vd_take_succ]
            rw [hy0.out]; simp only [Int.mul_add, Int.mul_sub, Int.mul_zero] at e0 ⊢
            omega
          · rw [List.map_append]
            exact hown3
        · go_wp2_with (refine wpList_append_lies _ rfl _ _ 48 rfl w.heap.size 3 i0 (.int .i64 0) 1 8 Tryz.underlying48 hi hz0 hz1 hz2 rfl (by decide) u5 k (ds.map (Value.int .i64)) rfl (HO.out.alloc _) ⟨wr.heap.size, 0, none⟩ 1 1 [.int .i64 (gx xs k - c)] rfl rfl ?_ (fun x hx => by simp at hx; subst hx; rfl) (by decide) (by unfold maxLen; omega) (by omega) (by have := hBr.size; simp; omega) _ rfl ?_; exact World.news_of_block (heap_alloc_new wr _); intro g cap w3 hown3 hgrow3 hat3 hlt3; have hB3 : Below w.heap.size w w3 := (bel_alw hBr).grown hgrow3 (by have := hBr.size; simp; omega) (fun q hq => (HO.out.lt q hq).1))
          refine ⟨⟨k + 1, 0, ds ++ [gx xs k - c], by omega, by go_num, rfl, by decide, by decide, by have := HL.out; simp; omega, ?_, u16_append HV.out.2 (u16_one (by omega)), ?_, hB3⟩, by simp [intOf]; omega⟩
          · have e0 := HV.out.1
            rw [vd_append, vd_one, pd_succ, HL.out, vd_take_succ, vd_take_succ]
            rw [hy0.out]; simp only [Int.mul_add, Int.mul_sub, Int.mul_zero] at e0 ⊢
            omega
          · rw [List.map_append]
            exact hown3
    · have h1I : ¬ (k : Int) < (n : Int) := by omega
      obtain rfl : k = n := by omega
      have hform : ∃ q' cap, u5 = .slice q' k cap ∧ k ≤ cap ∧ cap ≤ maxLen ∧ Rd wr q' .i64 ds ∧ Go.Proofs.YtkjpeehbhmcojaaGreatDoor.From w.heap.size q' := by
        have hown := HO.out
        rcases hown.2 with ⟨h1, h2⟩ | ⟨g, cap, cur, h1, hbg, _, h4, h5, _⟩
        · refine ⟨none, 0, by rw [h1, h2], by omega, Nat.zero_le _, ?_, from_none⟩
          have : ds = [] := List.eq_nil_of_length_eq_zero (by have := HL.out; omega)
          rw [this]; exact Rd.nil
        · subst h1
          exact ⟨_, cap, rfl, h4, h5, rd_owns hown, from_new hbg⟩
      obtain ⟨q', cap, rfl, hq1, hq2, hq3, hq4⟩ := hform
      go_wp2
      go_ret
      have e0 := HV.out.1
      rw [List.take_of_length_le (by have := HN.out; omega), List.take_of_length_le (by have := HN.out; omega)] at e0
      have hl := vd_lt HV.out.2
      rw [HL.out] at hl
      have hcz : c = 0 := by
        rcases (show c = 0 ∨ c = 1 by omega) with h | h
        · exact h
        · rw [h, Int.mul_one] at e0; omega
      rw [hcz, Int.mul_zero, Int.sub_zero] at e0
      exact ⟨q', k, cap, ds, rfl, HL.out, hq1, hq2, hq3, HV.out.2, e0, Nat.le_refl _, hq4, hBr⟩
theorem rcmp_any (p q : Option Addr) (n nc m mc : Nat) (xs ys : List Int) (w : World) (hn : xs.length = n) (hm : ys.length = m) (hnb : n ≤ 1000000000) (hmb : m ≤ 1000000000) (tx : tlen xs = n) (ty : tlen ys = m)
    (hX : Rd w p .i64 xs) (hXu : U16 xs) (hY : Rd w q .i64 ys) (hYu : U16 ys) :
    Calls Tryz.prog 68 #[.slice p n nc, .slice q m mc] w fun e w' => e = .returned (.int .i64 (icmp (vd xs) (vd ys))) ∧ Below w.heap.size w w' := by
  by_cases hne : n = m
  · subst hne
    have hb : ((n : Int) != (n : Int)) = false := by simp
    go_enter Tryz.func68, Tryz.ntmps68
    go_wp2_with fail
    go_loopw [5] (fun iv wr => ∃ k : Nat, k ≤ n ∧ iv = .int .i64 ((k : Int) - 1) ∧ Hid (xs.drop k = ys.drop k ∧ Below w.heap.size w wr)) (fun iv _ => (intOf iv + 1).toNat)
    case atStart =>
      refine ⟨n, Nat.le_refl _, by go_num, ?_, Below.refl _ _⟩
      rw [List.drop_of_length_le (by omega), List.drop_of_length_le (by omega)]
    case round =>
      obtain ⟨k, hk, rfl, H⟩ := hrel
      by_cases h0 : k = 0
      · subst h0
        go_wp2
        go_ret
        obtain ⟨hd, hb⟩ := H.out
        rw [List.drop_zero, List.drop_zero] at hd
        rw [hd, icmp_eq]
        exact ⟨rfl, hb⟩
      · obtain ⟨j, rfl⟩ : ∃ j, k = j + 1 := ⟨k - 1, by omega⟩
        have ej : ((j + 1 : Nat) : Int) - 1 = (j : Int) := by omega
        rw [ej]
        clear ej
        obtain ⟨hd, hb⟩ := H.out
        obtain ⟨b1, o1, rfl, hc1⟩ := (hX.below hb) (by omega)
        obtain ⟨b2, o2, rfl, hc2⟩ := (hY.below hb) (by omega)
        have g1 := hc1 j (by omega)
        have g2 := hc2 j (by omega)
        clear hc1 hc2 hd hb
        rcases Int.lt_trichotomy (gx xs j) (gx ys j) with hc | hc | hc
        · go_wp2
          go_quiet (fail)
          have hB := below_drewN H.out.2 nq
          generalize wr.drewN nq = wq at *
          go_wp2
          go_ret
          obtain ⟨hd, hb⟩ := H.out
          rw [icmp_lt (vd_lt_at hXu hYu j (by omega) (by omega) hd hc)]
          exact ⟨rfl, hB⟩
        · have hc1 : ¬ gx xs j < gx ys j := by omega
          have hc2 : ¬ gx ys j < gx xs j := by omega
          have HC : Hid (gx xs j = gx ys j) := hc
          clear hc
          go_wp2
          go_quiet (fail)
          have hB := below_drewN H.out.2 nq
          have e1 : (wr.drewN nq).cell? ⟨b1, o1 + j, none⟩ = some (.int .i64 (gx xs j)) := g1
          have e2 : (wr.drewN nq).cell? ⟨b2, o2 + j, none⟩ = some (.int .i64 (gx ys j)) := g2
          generalize wr.drewN nq = wq at *
          go_wp2
          go_quiet (fail)
          go_wp2
          obtain ⟨hd, hb⟩ := H.out
          refine ⟨⟨j, by omega, by go_num, drop_step j (by omega) (by omega) hd HC.out, below_drewN hB _⟩, by simp [intOf]⟩
        · have hc1 : ¬ gx xs j < gx ys j := by omega
          go_wp2
          go_quiet (fail)
          have hB := below_drewN H.out.2 nq
          have e1 : (wr.drewN nq).cell? ⟨b1, o1 + j, none⟩ = some (.int .i64 (gx xs j)) := g1
          have e2 : (wr.drewN nq).cell? ⟨b2, o2 + j, none⟩ = some (.int .i64 (gx ys j)) := g2
          generalize wr.drewN nq = wq at *
          go_wp2
          go_quiet (fail)
          go_wp2
          go_ret
          obtain ⟨hd, hb⟩ := H.out
          rw [icmp_gt (vd_lt_at hYu hXu j (by omega) (by omega) hd.symm hc)]
          exact ⟨rfl, below_drewN hB _⟩
  · have hb : ((n : Int) != (m : Int)) = true := by rw [bne_iff_ne]; omega
    rcases Nat.lt_or_ge n m with h | h
    · have h1 : (n : Int) < (m : Int) := by omega
      go_enter Tryz.func68, Tryz.ntmps68
      go_wp2
      go_ret
      rw [icmp_lt (vd_lt_len hXu hYu (by omega))]
      exact ⟨rfl, Below.refl _ _⟩
    · have h1 : ¬ (n : Int) < (m : Int) := by omega
      go_enter Tryz.func68, Tryz.ntmps68
      go_wp2
      go_ret
      rw [icmp_gt (vd_lt_len hYu hXu (by omega))]
      exact ⟨rfl, Below.refl _ _⟩
end Go.Proofs.YtkjpeehbhmcojaaGreatDoor
