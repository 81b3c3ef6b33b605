/-
  ashlarref1.Mul.
-/
import Derived.Test.YtppidaeoikahoaaGreatDoorCyViOaOf
import Derived.Test.YtppidaeoikahoaaGreatDoorRfRhCqRr
import Derived.Test.YtppidaeoikahoaaGreatDoorRnRqVhVm
import Derived.Test.YtppidaeoikahoaaGreatDoorWfUu
import Derived.Shelf.SlicesE.Clone
import Derived.Ground.SlgnProg
namespace Go.Proofs.YtppidaeoikahoaaGreatDoor
open Go.RowKit
set_option linter.unusedVariables false
set_option linter.unusedSimpArgs false

theorem mul_bd16 {v x : Int} (h1 : 0 ≤ v ∧ v < 65536) (h2 : 0 ≤ x ∧ x < 65536) : 0 ≤ v * x ∧ v * x ≤ 4294836225 := by
  refine ⟨Int.mul_nonneg h1.1 h2.1, ?_⟩
  have a1 : v * x ≤ v * 65535 := Int.mul_le_mul_of_nonneg_left (by omega) h1.1
  omega
theorem mul_lt_pd {a b : List Int} {i j : Nat} (ha : U16 a) (hb : U16 b) (hi : a.length ≤ i) (hj : b.length ≤ j) : vd a * vd b < pd (i + j) := by
  have a1 := vd_lt ha
  have b1 := vd_lt hb
  have a0 := vd_nonneg ha
  have b0 := vd_nonneg hb
  have a2 := pd_mono hi
  have b2 := pd_mono hj
  rw [pd_add]
  have c1 : vd a * vd b ≤ vd a * pd j := Int.mul_le_mul_of_nonneg_left (by omega) a0
  have c2 : vd a * pd j < pd i * pd j := Int.mul_lt_mul_of_pos_right (by omega) (pd_pos j)
  omega

set_option maxRecDepth 100000 in
set_option maxHeartbeats 4000000 in
/-- ashlarref1.Mul. -/
theorem rMul_any (s t : Bool) (p q : Option Addr) (n nc m mc : Nat) (xs ys : List Int) (w : World) (hn : xs.length = n) (hm : ys.length = m) (hnb : n ≤ 1000000) (hmb : m ≤ 1000000) (hX : Rd w p .i64 xs) (hXu : U16 xs) (hY : Rd w q .i64 ys) (hYu : U16 ys) :
    Calls Tryz.prog 70 #[.agg #[.bool s, .slice p n nc], .agg #[.bool t, .slice q m mc]] w (RAns (n + m + 1) (rval s xs * rval t ys) w) := by
  have hmk := mk_int (n + m + 1) (by omega)
  have ec : ((n + m + 1 : Nat) : Int) = (n : Int) + (m : Int) + 1 := by omega
  rw [ec] at hmk
  clear ec
  have HN : Hid (xs.length = n ∧ ys.length = m) := ⟨hn, hm⟩
  clear hn hm
  go_enter Tryz.func70, Tryz.ntmps70
  go_wp2
  have hrow := Row.new3 w (Obj.cells #[Value.bool s, Value.slice p n nc] 35) (Obj.cells #[Value.bool t, Value.slice q m mc] 35) (Obj.cells #[Value.bool false, Value.slice none 0 0] 35) 3 .i64 (zeros (n + m + 1))
  have hWs : (((w.alloc (Obj.cells #[Value.bool s, Value.slice p n nc] 35)).alloc (Obj.cells #[Value.bool t, Value.slice q m mc] 35)).alloc (Obj.cells #[Value.bool false, Value.slice none 0 0] 35)).heap.size = w.heap.size + 1 + 1 + 1 := by simp
  have hX3 := boxes3' w (.bool s) (.slice p n nc) (.bool t) (.slice q m mc) (.bool false) (.slice none 0 0) 35 35 35
  generalize ((w.alloc (Obj.cells #[Value.bool s, Value.slice p n nc] 35)).alloc (Obj.cells #[Value.bool t, Value.slice q m mc] 35)).alloc (Obj.cells #[Value.bool false, Value.slice none 0 0] 35) = W at *
  have hXW := hX.below hX3.below
  have hYW := hY.below hX3.below
  have HWs : Hid (W.heap.size = w.heap.size + 1 + 1 + 1) := hWs
  clear hWs
  have hbel : Below W.heap.size W (W.alloc (.cells (ca .i64 (zeros (n + m + 1))) 3)) := (Below.refl _ _).alloc (Nat.le_refl _) _
  generalize W.alloc (.cells (ca .i64 (zeros (n + m + 1))) 3) = W1 at *
  have HST : Hid (Row W1 (w.heap.size + 1 + 1 + 1) 3 .i64 (zeros (n + m + 1)) ∧ Below W.heap.size W W1) := ⟨hrow, hbel⟩
  clear hrow hbel hmk
  go_loopw [6] (fun iv wr => ∃ (i : Nat) (D : List Int), i ≤ n ∧ iv = .int .i64 i ∧ Hid (D.length = n + m + 1 ∧ U16 D ∧ vd D = vd (xs.take i) * vd ys ∧ Row wr (w.heap.size + 1 + 1 + 1) 3 .i64 D ∧ Below W.heap.size W wr)) (fun iv _ => n - (intOf iv).toNat)
  case atStart => exact ⟨0, zeros (n + m + 1), Nat.zero_le _, rfl, length_zeros _, u16_zeros _, by simp [vd_zero, vd], HST.out.1, HST.out.2⟩
  case round =>
    obtain ⟨i, D, hi, rfl, H⟩ := hrel
    have hXr := hX3.later H.out.2.2.2.2
    have k1 := hXr.ca1
    have k3 := hXr.cb1
    by_cases hlt : i < n
    · have hltI : (i : Int) < (n : Int) := by omega
      clear hXr
      go_wp2
      go_loopw [7, 8] (fun cv jv wr' => ∃ (j : Nat) (c : Int) (T : List Int), j ≤ m ∧ jv = .int .i64 j ∧ cv = .int .i64 c ∧ 0 ≤ c ∧ c < 65536 ∧ Hid (T.length = n + m + 1 ∧ U16 T ∧ vd T + pd (i + j) * c = vd D + pd i * (gx xs i * vd (ys.take j)) ∧ Row wr' (w.heap.size + 1 + 1 + 1) 3 .i64 T ∧ Below W.heap.size W wr')) (fun _ jv _ => m - (intOf jv).toNat)
      case atStart =>
        obtain ⟨hl, hu, hv, hr, hg⟩ := H.out
        exact ⟨0, 0, D, Nat.zero_le _, rfl, rfl, by decide, by decide, hl, hu, by simp [vd], hr, hg⟩
      case round =>
        obtain ⟨j, c, T, hj, rfl, rfl, hc0, hc1, HT⟩ := hrel
        clear k1 k3
        have hXr := hX3.later HT.out.2.2.2.2
        have k1 := hXr.ca1
        have k3 := hXr.cb1
        clear hXr
        by_cases hjm : j < m
        · have hjI : (j : Int) < (m : Int) := by omega
          have hijI : (i : Int) + (j : Int) < (n : Int) + (m : Int) + 1 := by omega
          obtain ⟨b1, o1, rfl, hc1'⟩ := (hXW.below HT.out.2.2.2.2) (by have := HN.out; omega)
          obtain ⟨b2, o2, rfl, hc2'⟩ := (hYW.below HT.out.2.2.2.2) (by have := HN.out; omega)
          have g1 := hc1' i (by have := HN.out; omega)
          have g2 := hc2' j (by have := HN.out; omega)
          have g3 := HT.out.2.2.2.1.cell (i + j) (by have := HT.out.1; omega)
          have g4 := HT.out.2.2.2.1.frozen (i + j)
          obtain ⟨bt0, bt1⟩ := HT.out.2.1 (i + j)
          obtain ⟨bm0, bm1⟩ := mul_bd16 (hXu i) (hYu j)
          obtain ⟨bx0, bx1⟩ := hXu i
          obtain ⟨by0, by1⟩ := hYu j
          have q1 : (c + (gx T (i + j) + gx xs i * gx ys j)).tmod 65536 = (c + (gx T (i + j) + gx xs i * gx ys j)) % 65536 := Int.tmod_eq_emod_of_nonneg (by omega)
          have q2 : (c + (gx T (i + j) + gx xs i * gx ys j)).tdiv 65536 = (c + (gx T (i + j) + gx xs i * gx ys j)) / 65536 := Int.tdiv_eq_ediv_of_nonneg (by omega)
          have v0 : IntKind.i64.wrap ((i : Int) + (j : Int)) = (i : Int) + (j : Int) := by rw [IntKind.wrap_i64]; omega
          have v1 : IntKind.i64.wrap (gx xs i * gx ys j) = gx xs i * gx ys j := by rw [IntKind.wrap_i64]; omega
          have v2 : IntKind.i64.wrap (gx T (i + j) + gx xs i * gx ys j) = gx T (i + j) + gx xs i * gx ys j := by rw [IntKind.wrap_i64]; omega
          have v3 : IntKind.i64.wrap (c + (gx T (i + j) + gx xs i * gx ys j)) = c + (gx T (i + j) + gx xs i * gx ys j) := by rw [IntKind.wrap_i64]; omega
          have v4 : ((i : Int) + (j : Int)).toNat = i + j := by omega
          have v5 : 0 ≤ (i : Int) + (j : Int) := by omega
          clear hc1' hc2'
          go_wp2_with fail
          go_quiet (fail)
          go_wp2_with fail
          have hsW := HWs.out
          obtain ⟨hl, hu, hv, hr, hg⟩ := HT.out
          have hr' : Row (wr.drewN nq) (w.heap.size + 1 + 1 + 1) 3 .i64 T := hr
          refine ⟨⟨j + 1, _, T.set (i + j) ((c + (gx T (i + j) + gx xs i * gx ys j)) % 65536), by omega, by go_num, rfl, by omega, by omega, by rw [List.length_set]; exact hl, u16_set hu _ (by omega), ?_, hr'.set (i + j) _, (below_drewN hg nq).setCell (by simp only; omega) _⟩, by simp [intOf]; omega⟩
          rw [vd_set T _ _ (by omega), vd_take_succ ys j, ← Nat.add_assoc, pd_succ]
          have e := cut16 (pd (i + j)) (c + (gx T (i + j) + gx xs i * gx ys j))
          have e2 : pd i * (gx xs i * (vd (List.take j ys) + pd j * gx ys j)) = pd i * (gx xs i * vd (List.take j ys)) + pd (i + j) * (gx xs i * gx ys j) := by
            rw [pd_add, Int.mul_add, Int.mul_add]
            congr 1
            simp only [Int.mul_assoc, Int.mul_left_comm]
          rw [e2]
          simp only [Int.mul_add, Int.mul_sub] at e ⊢
          omega
        · obtain rfl : j = m := by omega
          have hjI : ¬ (j : Int) < (j : Int) := by omega
          have v0 : IntKind.i64.wrap ((i : Int) + (j : Int)) = (i : Int) + (j : Int) := by rw [IntKind.wrap_i64]; omega
          go_wp2
          go_loopw [7, 9] (fun cv kv wr' => ∃ (k : Nat) (c : Int) (T : List Int), i + j ≤ k ∧ k ≤ n + j + 1 ∧ kv = .int .i64 k ∧ cv = .int .i64 c ∧ 0 ≤ c ∧ c < 65536 ∧ Hid (T.length = n + j + 1 ∧ U16 T ∧ vd T + pd k * c = vd (xs.take (i + 1)) * vd ys ∧ Row wr' (w.heap.size + 1 + 1 + 1) 3 .i64 T ∧ Below W.heap.size W wr')) (fun _ kv _ => n + j + 1 - (intOf kv).toNat)
          case atStart =>
            obtain ⟨hl, hu, hv, hr, hg⟩ := HT.out
            refine ⟨i + j, c, T, Nat.le_refl _, by omega, by go_num, rfl, hc0, hc1, hl, hu, ?_, hr, hg⟩
            rw [hv, H.out.2.2.1, List.take_of_length_le (l := ys) (by have := HN.out; omega), vd_take_succ, Int.add_mul, Int.mul_assoc]
          case round =>
            obtain ⟨k, c2, T2, hk1, hk2, rfl, rfl, hd0, hd1, HT2⟩ := hrel
            by_cases hc : 0 < c2
            · have hkL : k < n + j + 1 := by
                rcases Nat.lt_or_ge k (n + j + 1) with h | h
                · exact h
                · exfalso
                  obtain ⟨hl, hu, hv, hr, hg⟩ := HT2.out
                  have e1 := mul_lt_pd (i := n) (j := j) (u16_take hXu (i + 1)) hYu (by have := HN.out; simp; omega) (by have := HN.out; omega)
                  have e2 : pd (n + j) ≤ pd k := pd_mono (by omega)
                  have e3 := vd_nonneg hu
                  have e4 : pd k * 1 ≤ pd k * c2 := Int.mul_le_mul_of_nonneg_left (by omega) (Int.le_of_lt (pd_pos k))
                  omega
              have hkI : (k : Int) < (n : Int) + (j : Int) + 1 := by omega
              have g3 := HT2.out.2.2.2.1.cell k (by have := HT2.out.1; omega)
              have g4 := HT2.out.2.2.2.1.frozen k
              obtain ⟨bt0, bt1⟩ := HT2.out.2.1 k
              have q1 : (c2 + gx T2 k).tmod 65536 = (c2 + gx T2 k) % 65536 := Int.tmod_eq_emod_of_nonneg (by omega)
              have q2 : (c2 + gx T2 k).tdiv 65536 = (c2 + gx T2 k) / 65536 := Int.tdiv_eq_ediv_of_nonneg (by omega)
              go_wp2
              have hsW := HWs.out
              obtain ⟨hl, hu, hv, hr, hg⟩ := HT2.out
              refine ⟨⟨k + 1, _, T2.set k ((c2 + gx T2 k) % 65536), by omega, by omega, by go_num, rfl, by omega, by omega, by rw [List.length_set]; exact hl, u16_set hu _ (by omega), ?_, hr.set k _, hg.setCell (by simp only; omega) _⟩, by simp [intOf]; omega⟩
              rw [vd_set T2 _ _ (by omega), pd_succ, ← hv]
              have e := cut16 (pd k) (c2 + gx T2 k)
              simp only [Int.mul_add, Int.mul_sub] at e ⊢
              omega
            · obtain rfl : c2 = 0 := by omega
              go_wp2
              obtain ⟨hl, hu, hv, hr, hg⟩ := HT2.out
              rw [Int.mul_zero, Int.add_zero] at hv
              refine ⟨⟨i + 1, T2, by omega, by go_num, hl, hu, hv, hr, hg⟩, by simp [intOf]; omega⟩
    · obtain rfl : i = n := by omega
      have hltI : ¬ (i : Int) < (i : Int) := by omega
      have k0 := hXr.ca0
      have k2 := hXr.cb0
      clear hXr
      go_wp2_with fail
      obtain ⟨hl, hu, hv, hr, hg⟩ := H.out
      have hXe := hX3.later hg
      refine (rtrim_any (!(s == t)) (some ⟨w.heap.size + 1 + 1 + 1, 0, none⟩) (i + m + 1) (i + m + 1) D _ hl (Nat.le_refl _) (by unfold maxLen; omega) hr.rd_all).mono ?_
      rintro e w4 ⟨rfl, hb4⟩
      have HE : Hid (D.length = i + m + 1 ∧ vd D = vd (xs.take i) * vd ys) := ⟨hl, hv⟩
      clear hl hv k0 k1 k2 k3
      obtain ⟨c0', c1', f0, f1⟩ := resbox hb4 hXe.cr0 hXe.cr1 hXe.fr0 hXe.fr1
      go_wp2
      have hsz := hX3.size
      have hsW := HWs.out
      refine bodyPost_ret (v := .agg #[.bool (nsg (!(s == t)) D), .slice (some ⟨w.heap.size + 1 + 1 + 1, 0, none⟩) (tlen D) (tlen D)]) (by simp [results, Tryz.results70, go_sem, c0', c1']) rfl ?_
      refine end_rn2 hX3.below (r := w.heap.size + 1 + 1) (by omega) (by omega) hg hb4 hr.rd_all (from_new (by omega)) hu (by have := HE.out.1; omega) (by omega) ?_
      have hv := HE.out.2
      rw [List.take_of_length_le (by have := HN.out; omega)] at hv
      rw [rval, hv, rval, rval]
      cases s <;> cases t <;> simp [Int.neg_mul, Int.mul_neg]
/-- ashlarref1.Mul of two that are known. -/
theorem rMul_rn {w : World} {s t : Bool} {p q : Option Addr} {n m : Nat} {xs ys : List Int} (h : RN w s p n xs) (k : RN w t q m ys) (hn : n ≤ 1000000) (hm : m ≤ 1000000) :
    Calls Tryz.prog 70 #[.agg #[.bool s, .slice p n n], .agg #[.bool t, .slice q m m]] w (RAns (n + m + 1) (rval s xs * rval t ys) w) :=
  rMul_any s t p q n n m m xs ys w h.len k.len hn hm h.rd h.u k.rd k.u
end Go.Proofs.YtppidaeoikahoaaGreatDoor
/-
  ashlarref1.Mul, with values.
-/
namespace Go.Proofs.YtppidaeoikahoaaGreatDoor
open Go.RowKit
set_option linter.unusedVariables false
set_option linter.unusedSimpArgs false

section
variable {w w' : World} {N M K : Nat} {z x y : Int} {s t : Bool} {p q : Option Addr} {n m : Nat}
theorem rMul_v (h : RV w N x s p n) (k : RV w M y t q m) (hN : N ≤ 1000) (hM : M ≤ 1000) :
    Calls Tryz.prog 70 #[.agg #[.bool s, .slice p n n], .agg #[.bool t, .slice q m m]] w (RVP (N + M + 1) (x * y) w) := by
  obtain ⟨ds, h1, rfl, h3⟩ := h
  obtain ⟨es, k1, rfl, k3⟩ := k
  refine (rMul_rn h1 k1 (by omega) (by omega)).mono ?_
  rintro e w' ⟨s', p', n', ds', g1, g2, g3, g4, g5, g6⟩
  exact ⟨s', p', n', g1, ⟨ds', g2, g3, by omega⟩, g5, g6⟩
end
end Go.Proofs.YtppidaeoikahoaaGreatDoor
/-
  ashlarref3.Scale.
-/
namespace Go.Proofs.YtppidaeoikahoaaGreatDoor
open Go.RowKit
set_option linter.unusedVariables false
set_option linter.unusedSimpArgs false

theorem rMul_e {w : World} {N M : Nat} {x y : Int} {e f : Ent} (h : RE w N x e) (k : RE w M y f) (hN : N ≤ 1000) (hM : M ≤ 1000) :
    Calls Tryz.prog 70 #[.agg #[.bool e.s, .slice e.p e.n e.c], .agg #[.bool f.s, .slice f.p f.n f.c]] w fun r w' => ∃ u : Ent, r = .returned (.agg #[.bool u.s, .slice u.p u.n u.c]) ∧ RE w' (N + M + 1) (x * y) u ∧ Go.Proofs.YtppidaeoikahoaaGreatDoor.From w.heap.size u.p ∧ Below w.heap.size w w' := by
  obtain ⟨h1, h4⟩ := h
  obtain ⟨k1, k4⟩ := k
  rw [h4, k4]
  refine (rMul_v h1 k1 hN hM).mono ?_
  rintro r w' ⟨s', p', n', g1, g2, g3, g4⟩
  exact ⟨⟨s', p', n', n'⟩, g1, ⟨g2, rfl⟩, g3, g4⟩
set_option maxHeartbeats 4000000 in
set_option maxRecDepth 100000 in
/-- ashlarref3.Scale. -/
theorem rpScale_any {w : World} {N M : Nat} {p : Option Addr} {n nc : Nat} {es0 : List Ent} {zs : List Int} {y : Int} {f : Ent} (h : PR w N p n nc es0 zs) (hf : RE w M y f) (hn : n ≤ 100000) (hN : N ≤ 400) (hM : M ≤ 400) :
    Calls Tryz.prog 22 #[.slice p n nc, .agg #[.bool f.s, .slice f.p f.n f.c]] w (PrP (tr (zs.map (y * ·))) (M + N + 1) w) := by
  obtain ⟨i0, hi, hzz⟩ := Option.map_eq_some_iff.1 info_ref
  simp only [Prod.mk.injEq] at hzz
  obtain ⟨hz0, hz1, hz2⟩ := hzz
  have HI : Hid (Tryz.prog.info? 35 = some i0 ∧ i0.zero = some (.agg #[.bool false, .slice none 0 0]) ∧ i0.size = 2 ∧ i0.bytes = 32) := ⟨hi, hz0, hz1, hz2⟩
  have HX : Hid (PR w N p n nc es0 zs ∧ RE w M y f) := ⟨h, hf⟩
  have hel0 := h.el
  have hzl0 := h.zl
  have hvl : (zs.map (y * ·)).length = n := by simp [hzl0]
  have hvg : ∀ j, gx (zs.map (y * ·)) j = y * gx zs j := fun j => gx_map0 (y * ·) (by simp) zs j
  generalize hvs : zs.map (y * ·) = vs at *
  have HVS : Hid ((∀ j, gx vs j = y * gx zs j) ∧ vs.length = n) := ⟨hvg, hvl⟩
  clear h hf hi hz0 hz1 hz2 hvs hvg hvl
  go_enter Tryz.func22, Tryz.ntmps22
  go_wp2_with fail
  have hal0 := bel_al (o := .cells #[.bool f.s, .slice f.p f.n f.c] 35) (Below.refl w.heap.size w)
  have hX0 : Bx (w.alloc (.cells #[.bool f.s, .slice f.p f.n f.c] 35)) w.heap.size (.bool f.s) (.slice f.p f.n f.c) := Bx.new _ _ _ rfl
  have HS0 : Hid (Bx (w.alloc (.cells #[.bool f.s, .slice f.p f.n f.c] 35)) w.heap.size (.bool f.s) (.slice f.p f.n f.c) ∧ Below w.heap.size w (w.alloc (.cells #[.bool f.s, .slice f.p f.n f.c] 35))) := ⟨hX0, hal0⟩
  generalize w.alloc (.cells #[.bool f.s, .slice f.p f.n f.c] 35) = W0 at *
  clear hal0 hX0
  go_loopw [5, 6] (fun sv iv wr => ∃ (k : Nat) (es : List Ent), k ≤ n ∧ iv = .int .i64 k ∧ Hid (es.length = k ∧ LG (w.heap.size + 1) 35 (fun w z e => RE w (M + N + 1) z e) wr sv es (vs.take k) ∧ Bx wr w.heap.size (.bool f.s) (.slice f.p f.n f.c) ∧ Below w.heap.size w wr)) (fun _ iv _ => n - (intOf iv).toNat)
  case atStart => exact ⟨0, [], Nat.zero_le _, by go_num, rfl, by rw [List.take_zero]; exact LG.nil _ _ _ _, HS0.out.1, HS0.out.2⟩
  case round =>
    obtain ⟨k, es, hk, rfl, H⟩ := hrel
    rcases Nat.lt_or_ge k n with hlt | hge
    · obtain ⟨hel, hLR, hbx, hB⟩ := H.out
      have hPR := HX.out.1.below hB
      obtain ⟨b, o, hp, hc⟩ := hPR.pl (by omega)
      subst hp
      obtain ⟨x0, x1⟩ := hc k (by omega)
      obtain ⟨d0, d1, -, -⟩ := id hbx
      have HC : Hid (w.cell? ⟨b, o + k * 2, none⟩ = some (.bool (ge es0 k).s) ∧ w.cell? ⟨b, o + k * 2 + 1, none⟩ = some (.slice (ge es0 k).p (ge es0 k).n (ge es0 k).c)) := by
        obtain ⟨b', o', hb', hc'⟩ := HX.out.1.pl (by omega)
        cases hb'
        exact hc' k (by omega)
      have hx := hPR.ev k hlt
      have hy := HX.out.2.below hB
      have i1 : (k : Int) < (n : Int) := by omega
      have hw1 : w.heap.size + 1 ≤ wr.heap.size := block_lt_of_cell d0
      have hdr : Below wr.heap.size wr wr.drew := (Below.refl _ _).drew
      have hmu := rMul_e (hy.below hdr) (hx.below hdr) (by omega) (by omega)
      obtain ⟨hi, hz0, hz1, hz2⟩ := HI.out
      clear hel hLR hB hc hPR hbx
      go_upto_region 5 with fail
      go_region_held3 (fun w' => w'.cell? ⟨b, o + k * 2, none⟩ = some (.bool (ge es0 k).s) ∧ w'.cell? ⟨b, o + k * 2 + 1, none⟩ = some (.slice (ge es0 k).p (ge es0 k).n (ge es0 k).c) ∧ w'.cell? ⟨w.heap.size, 0, none⟩ = some (.bool f.s) ∧ w'.cell? ⟨w.heap.size, 1, none⟩ = some (.slice f.p f.n f.c)) (first | with_reducible exact ⟨x0, x1, d0, d1⟩ | with_reducible exact K3 | (refine keep4R ⟨x0, x1, d0, d1⟩ ?_; (repeat (first | (with_reducible exact hB1) | (with_reducible exact Below.refl _ _) | (refine Bel_al ?_ (Nat.le_refl _)) | (refine Below.drew ?_))); done))
        (first
          | (go_at_call 70; go_fit hmu; rintro r w1 ⟨u, rfl, hN1, hF1', hb1⟩; have hF1 := unFr hF1'; clear hF1'; have hB1 := undrew hb1; have hown0 := own_below H.out.2.1.own hB1; rw [H.out.1] at hown0; have HO : Hid (w1.ownsRow (w.heap.size + 1) 35 2 u5 k (fl es)) := hown0; clear hown0; have hsz : w.heap.size + 1 ≤ w1.heap.size := Nat.le_trans hw1 hB1.size)
          | (refine step_append_lies _ rfl _ _ 31 rfl (w.heap.size + 1) 35 i0 (.agg #[.bool false, .slice none 0 0]) 2 32 Tryz.underlying31 hi hz0 hz1 hz2 rfl (by decide) u5 k (fl es) rfl (HO.out.alloc _) ⟨w1.heap.size, 0, none⟩ 1 1 [.bool u.s, .slice u.p u.n u.c] rfl rfl ?_ (fun x hx => by simp at hx; rcases hx with rfl | rfl <;> rfl) (by decide) (by unfold maxLen; omega) (by omega) (by simp; omega) _ rfl ?_; exact World.news_of_block (heap_alloc_new w1 _); intro g cap w3 hown3 hgrow3 hat3 hlt3; have hB3 : Below w.heap.size w w3 := ((bnext' H.out.2.2.2 hB1).alloc (by omega) _).grown hgrow3 (by simp; omega) (fun q hq => by have := (HO.out.lt q hq).1; omega); have hX3 : Bx w3 w.heap.size (.bool f.s) (.slice f.p f.n f.c) := Bx.kept ((H.out.2.2.1.later hB1).alloc _) hgrow3 (fun hq => by have := (HO.out.lt _ hq.symm).1; omega); have K3 := And.intro (cell_later hB3 HC.out.1) (And.intro (cell_later hB3 HC.out.2) (And.intro hX3.c0 hX3.c1)); have HA : Hid (LG (w.heap.size + 1) 35 (fun w z e => RE w (M + N + 1) z e) w3 (.slice (some ⟨g, 0, none⟩) (k + 1) cap) (es ++ [u]) (vs.take k ++ [y * gx zs k])) := LG.app (lasts_RE _) H.out.1 H.out.2.1 hB1 hN1 (fun h0 a ha => .inr (hF1 a ha)) hown3 hgrow3 hat3; clear hown3 hgrow3 hat3))
      all_goals
        clear hmu hx hy hN1 x0 x1 d0 d1
        go_wp2
        refine ⟨⟨k + 1, es ++ [u], by omega, by go_num, by have := H.out.1; simp; omega, ?_, hX3, hB3⟩, by simp [intOf]; omega⟩
        rw [take_snocg vs k (by have := HVS.out.2; omega), HVS.out.1 k]
        exact HA.out
    · obtain rfl : k = n := by omega
      obtain ⟨hel, hLR, hbx, hB⟩ := H.out
      have hvl := HVS.out.2
      rw [List.take_of_length_le (by omega)] at hLR
      obtain ⟨q, cap, hv, hPR, hF⟩ := hLR.pr
      subst hv
      rw [hel] at hPR ⊢
      have HB : Hid (Below w.heap.size w wr) := hB
      clear H hLR hB hge hk hbx
      go_wp2_with fail
      refine (rTrim_any (M + N + 1) q k cap es vs _ hPR (by omega)).mono ?_
      rintro e w1 ⟨rfl, hb1⟩
      have HP : Hid (PR wr (M + N + 1) q k cap es vs) := hPR
      clear hPR
      go_wp2
      go_ret
      have htl := tlen_le vs
      have hcap := HP.out.cap
      have hT := (HP.out.below hb1).take (tlen vs) (tlen vs) (by omega) (Nat.le_refl _) (by omega)
      exact ⟨q, tlen vs, es.take (tlen vs), rfl, hT, fun a ha => Nat.le_of_succ_le (hF a ha), tlen_tr vs, bnext' HB.out hb1⟩
end Go.Proofs.YtppidaeoikahoaaGreatDoor
/-
  Lists of numbers with spare room behind; slices.Clone of a polynomial.
-/
namespace Go.Proofs.YtppidaeoikahoaaGreatDoor
open Go.RowKit
set_option linter.unusedVariables false
set_option linter.unusedSimpArgs false

/-- Block g begins with a list. -/
def RW (w : World) (g : Nat) (t : TypeId) (es : List Ent) : Prop := ∃ spare : List Value, w.heap[g]? = some (.cells ((es.flatMap fun e => [Value.bool e.s, .slice e.p e.n e.c]) ++ spare).toArray t (0, 0))
section
variable {w w' : World} {g : Nat} {t : TypeId} {es : List Ent}
theorem RW.lt (h : RW w g t es) : g < w.heap.size := by
  obtain ⟨s, h⟩ := h
  exact (Array.getElem?_eq_some_iff.1 h).1
theorem RW.cell (h : RW w g t es) (j : Nat) (hj : j < es.length) : w.cell? ⟨g, j * 2, none⟩ = some (.bool (ge es j).s) ∧ w.cell? ⟨g, j * 2 + 1, none⟩ = some (.slice (ge es j).p (ge es j).n (ge es j).c) := by
  obtain ⟨s, h⟩ := h
  obtain ⟨h1, h2⟩ := flat_get es j hj
  have hl := flat_length es
  rw [cell_of_row w g (j * 2) _ t (0, 0) h, cell_of_row w g (j * 2 + 1) _ t (0, 0) h]
  simp only [List.getElem?_toArray]
  rw [List.getElem?_append_left (by omega), List.getElem?_append_left (by omega)]
  exact ⟨h1, h2⟩
theorem RW.frozen (h : RW w g t es) (j : Nat) : w.frozen? ⟨g, j, none⟩ = false := by
  obtain ⟨s, h⟩ := h
  exact frozen_of_row w g j _ t h
theorem RW.set (h : RW w g t es) (j : Nat) (e : Ent) (hj : j < es.length) : RW ((w.setCell ⟨g, j * 2, none⟩ (.bool e.s)).setCell ⟨g, j * 2 + 1, none⟩ (.slice e.p e.n e.c)) g t (es.set j e) := by
  obtain ⟨s, h⟩ := h
  refine ⟨s, ?_⟩
  have hl := flat_length es
  have h1 := heap_setCell_same w g (j * 2) _ t (.bool e.s) h
  rw [heap_setCell_same _ g (j * 2 + 1) _ t (.slice e.p e.n e.c) h1]
  simp only [List.setIfInBounds_toArray]
  rw [List.set_append_left _ _ (by omega), List.set_append_left _ _ (by rw [List.length_set]; omega), flat_set es j e hj]
theorem RW.below {B : Nat} (h : RW w g t es) (hb : Below B w w') (hg : g < B) : RW w' g t es := by
  obtain ⟨s, h⟩ := h
  exact ⟨s, (hb.block g hg).trans h⟩
theorem Row2.rw (h : Row2 w g t es) : RW w g t es := ⟨[], by rw [List.append_nil]; exact h⟩
theorem RW.pl (h : RW w g t es) : PL w (some ⟨g, 0, none⟩) es := fun _ => ⟨g, 0, rfl, fun j hj => by
  simp only [Nat.zero_add]; exact h.cell j hj⟩
theorem RW.set_other (h : RW w g t es) (a : Addr) (v : Value) (hne : g ≠ a.block) : RW (w.setCell a v) g t es := by
  obtain ⟨s, h⟩ := h
  exact ⟨s, (heap_setCell_other w a g v hne).trans h⟩
end
shelf_lay_g SlLaysE0.n41 Slgn 41 at Tryz 140 as Tryz.clonePoly
theorem one_flat (es : List Ent) : ∀ u ∈ es.flatMap (fun e => [Value.bool e.s, .slice e.p e.n e.c]), u.oneCell' = true := fun u hu => by
  obtain ⟨e, -, h⟩ := List.mem_flatMap.1 hu
  simp at h
  rcases h with rfl | rfl <;> rfl
theorem PL.cells {w : World} {b o : Nat} {es : List Ent} (h : ∀ j, j < es.length → w.cell? ⟨b, o + j * 2, none⟩ = some (.bool (ge es j).s) ∧ w.cell? ⟨b, o + j * 2 + 1, none⟩ = some (.slice (ge es j).p (ge es j).n (ge es j).c)) (j : Nat) (u : Value) (hj : (es.flatMap fun e => [Value.bool e.s, .slice e.p e.n e.c])[j]? = some u) : w.cell? ⟨b, o + j, none⟩ = some u := by
  have hl := flat_length es
  have hlt : j < es.length * 2 := by
    rw [← hl]
    exact (List.getElem?_eq_some_iff.1 hj).1
  obtain ⟨g0, g1⟩ := flat_get es (j / 2) (by omega)
  obtain ⟨c0, c1⟩ := h (j / 2) (by omega)
  rcases Nat.mod_two_eq_zero_or_one j with e | e
  · have hi : j / 2 * 2 = j := by omega
    rw [hi] at g0 c0
    rw [c0, ← g0, hj]
  · have hi : j / 2 * 2 + 1 = j := by omega
    rw [hi] at g1
    rw [Nat.add_assoc, hi] at c1
    rw [c1, ← g1, hj]
noncomputable def apiI : TypeInfo := (Tryz.prog.info? 26).get (by kernel_rfl)
/-- slices.Clone of a polynomial that is not zero. -/
theorem clone_poly {w : World} {K : Nat} {p : Option Addr} {n nc : Nat} {es : List Ent} {zs : List Int} (h : PA w K p n nc es zs) (hn : n ≤ 1000000) (hn1 : 1 ≤ n) :
    Calls Tryz.prog 140 #[.slice p n nc] w fun r w' => ∃ g cap, r = .returned (.slice (some ⟨g, 0, none⟩) n cap) ∧ w.heap.size ≤ g ∧ n ≤ cap ∧ cap ≤ maxLen ∧ RW w' g 26 es ∧ Below w.heap.size w w' := by
  have hel := h.el
  obtain ⟨b, o, rfl, hc⟩ := h.pl (by omega)
  refine (AnyE.slices_Clone Tryz.clonePoly apiI (.agg #[.bool false, .slice none 0 0]) 2 32 (by kernel_rfl) (by kernel_rfl) (by kernel_rfl) (by kernel_rfl) rfl (by decide) Tryz.sizeOf26 b o n nc (es.flatMap fun e => [Value.bool e.s, .slice e.p e.n e.c]) w (by rw [flat_length]; omega) (by unfold maxLen; omega) (by omega) (PL.cells hc) (one_flat es)).mono ?_
  rintro r w' ⟨v, rfl, ⟨h1, h2⟩, -, hb⟩
  rcases h2 with ⟨-, h0⟩ | ⟨g, cap, cur, rfl, hg, hr, hc1, hc2, hcs, htk⟩
  · omega
  · refine ⟨g, cap, rfl, hg, hc1, hc2, ⟨cur.toList.drop (n * 2), ?_⟩, hb⟩
    rw [← htk, List.take_append_drop]
    exact hr
end Go.Proofs.YtppidaeoikahoaaGreatDoor
