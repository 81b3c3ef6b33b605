/-
  ashlarref3.To; upoly.Prim.
-/
import Derived.Test.YtppidaeoikahoaaGreatDoorCuVk
import Derived.Test.YtppidaeoikahoaaGreatDoorRfRhCqRr
import Derived.Test.YtppidaeoikahoaaGreatDoorUv
import Derived.Test.YtppidaeoikahoaaGreatDoorGaGbKp
namespace Go.Proofs.YtppidaeoikahoaaGreatDoor
open Go.RowKit
set_option linter.unusedVariables false
set_option linter.unusedSimpArgs false

theorem rTo_e {w : World} {N K : Nat} {z : Int} {e : Ent} (h : RE w N z e) (hN : N ≤ 1000) (hK : N ≤ 2 * K) :
    Calls Tryz.prog 80 #[.agg #[.bool e.s, .slice e.p e.n e.c]] w fun r w' => ∃ u : Ent, r = .returned (.agg #[.bool u.s, .slice u.p u.n u.c]) ∧ EV w' K z u ∧ Go.Proofs.YtppidaeoikahoaaGreatDoor.From w.heap.size u.p ∧ Below w.heap.size w w' := by
  obtain ⟨⟨ds, h1, h2, h3⟩, h4⟩ := h
  refine (rTo_anyF e.s e.p e.n e.c ds w h1.len (by omega) h1.rd h1.u).mono ?_
  rintro r w' ⟨p', m, cap, g1, g2, g3, g4, g5⟩
  have hm := g3.out
  refine ⟨⟨e.s, p', m, cap⟩, g1, ⟨jn ds m, g2, ?_, by show m ≤ K; omega⟩, g4, g5⟩
  show ival e.s (jn ds m) = z
  rw [← h2, ival, rval, val_jn, List.take_of_length_le (by rw [h1.len]; omega)]
/-- What To answers. -/
def ToP (zs : List Int) (K : Nat) (w : World) (e : Ending) (w' : World) : Prop :=
  ∃ q m mc fs, e = .returned (.slice q m mc) ∧ PA w' K q m mc fs zs ∧ Below w.heap.size w w'
set_option maxHeartbeats 2000000 in
set_option maxRecDepth 100000 in
/-- ashlarref3.To. -/
theorem rpTo_any {w : World} {N K : Nat} {p : Option Addr} {n nc : Nat} {es0 : List Ent} {zs : List Int} (h : PR w N p n nc es0 zs) (hn : n ≤ 100000) (hN : N ≤ 1000) (hK : N ≤ 2 * K) :
    Calls Tryz.prog 52 #[.slice p n nc] w (ToP zs K w) := by
  obtain ⟨i0, hi, hzz⟩ := Option.map_eq_some_iff.1 info_apiI
  simp only [Prod.mk.injEq] at hzz
  obtain ⟨hz0, hz1, hz2⟩ := hzz
  have HI : Hid (Tryz.prog.info? 26 = some i0 ∧ i0.zero = some (.agg #[.bool false, .slice none 0 0]) ∧ i0.size = 2 ∧ i0.bytes = 32) := ⟨hi, hz0, hz1, hz2⟩
  have HX : Hid (PR w N p n nc es0 zs) := h
  have hzl := h.zl
  clear h hi hz0 hz1 hz2
  go_enter Tryz.func52, Tryz.ntmps52
  go_wp2_with fail
  go_loopw [3, 4] (fun qv iv wr => ∃ (k : Nat) (es : List Ent), k ≤ n ∧ iv = .int .i64 k ∧ Hid (es.length = k ∧ LG w.heap.size 26 (fun w z e => EV w K z e) wr qv es (zs.take k) ∧ Below w.heap.size w wr)) (fun _ iv _ => n - (intOf iv).toNat)
  case atStart => exact ⟨0, [], Nat.zero_le _, by go_num, rfl, by rw [List.take_zero]; exact LG.nil _ _ _ _, Below.refl _ _⟩
  case round =>
    obtain ⟨k, es, hk, rfl, H⟩ := hrel
    rcases Nat.lt_or_ge k n with hlt | hge
    · obtain ⟨hel, hLR, hB⟩ := H.out
      have hPR := HX.out.below hB
      obtain ⟨b, o, hp, hc⟩ := hPR.pl (by rw [hPR.el]; omega)
      subst hp
      obtain ⟨c0, c1⟩ := hc k (by rw [hPR.el]; omega)
      have hto := rTo_e (hPR.ev k hlt) hN hK
      clear hel hLR hB hc hPR
      go_wp2_with fail
      refine hto.mono ?_
      rintro e w1 ⟨u, rfl, hu, hF1, hb1⟩
      clear c0 c1 hto
      obtain ⟨hi, hz0, hz1, hz2⟩ := HI.out
      have hown0 := own_below H.out.2.1.own hb1
      rw [H.out.1] at hown0
      have HO : Hid (w1.ownsRow w.heap.size 26 2 u3 k (fl es)) := hown0
      have hsz : w.heap.size ≤ w1.heap.size := Nat.le_trans H.out.2.2.size hb1.size
      have HE : Hid (EV w1 K (gx zs k) u) := hu
      clear hown0 hu
      go_wp2_with (refine wpList_append_lies _ rfl _ _ 23 rfl w.heap.size 26 i0 (.agg #[.bool false, .slice none 0 0]) 2 32 Tryz.underlying23 hi hz0 hz1 hz2 rfl (by decide) u3 k (fl es) rfl (HO.out.alloc _) ⟨w1.heap.size, 0, none⟩ 1 1 [.bool u.s, .slice u.p u.n u.c] rfl rfl ?_ (fun x hx => by simp at hx; rcases hx with rfl | rfl <;> rfl) (by decide) (by unfold maxLen; omega) (by omega) (by simp; omega) _ rfl ?_; exact World.news_of_block (heap_alloc_new w1 _); intro g cap w3 hown3 hgrow3 hat3 hlt3; have hB3 : Below w.heap.size w w3 := ((bnext' H.out.2.2 hb1).alloc hsz _).grown hgrow3 (by simp; omega) (fun q hq => (HO.out.lt q hq).1); have HA : Hid (LG w.heap.size 26 (fun w z e => EV w K z e) w3 (.slice (some ⟨g, 0, none⟩) (k + 1) cap) (es ++ [u]) (zs.take k ++ [gx zs k])) := LG.app (lasts_EV K) H.out.1 H.out.2.1 hb1 HE.out (fun h0 a ha => .inr (hF1 a ha)) hown3 hgrow3 hat3; clear hown3 hgrow3 hat3)
      refine ⟨⟨k + 1, es ++ [u], by omega, by go_num, by have := H.out.1; simp; omega, by rw [take_snocg zs k (by omega)]; exact HA.out, hB3⟩, by simp [intOf]; omega⟩
    · obtain rfl : k = n := by omega
      obtain ⟨hel, hLR, hB⟩ := H.out
      rw [List.take_of_length_le (by omega)] at hLR
      obtain ⟨q, cap, hv, hc1, hc2, hPL, hF, hpn⟩ := hLR.pl
      have hev := hLR.ev
      subst hv
      rw [hel] at hev hc1 ⊢
      have HR : Hid (ToP zs K w (.returned (.slice q k cap)) wr) := ⟨q, _, cap, es, rfl, ⟨hel, hzl, hc1, hc2, hpn, hPL, hev⟩, hB⟩
      clear H hLR hev hPL hF hB hge
      go_wp2
      go_ret
      exact HR.out
theorem prml_nil : prml [] = [] := rfl
set_option maxHeartbeats 2000000 in
set_option maxRecDepth 100000 in
/-- upoly.parts of the zero polynomial. -/
theorem parts_nil {w : World} {p : Option Addr} {es : List Ent} (K : Nat) (hK : K < 150) (hK1 : 1 ≤ K) (h : PA w K p 0 0 es []) :
    Calls Tryz.prog 105 #[.slice p (0 : Nat) (0 : Nat)] w (PtP [] K w) := by
  go_enter Tryz.func105, Tryz.ntmps105
  go_wp2_with fail
  have hal0 := bel_al (o := .cells #[.bool false, .slice none 0 0] 26) (Below.refl w.heap.size w)
  have hR0 : Bx (w.alloc (.cells #[.bool false, .slice none 0 0] 26)) w.heap.size (.bool false) (.slice none 0 0) := Bx.new _ _ _ rfl
  generalize w.alloc (.cells #[.bool false, .slice none 0 0] 26) = W0 at *
  refine (Content_any (h.below hal0) (by decide) hK hK1).mono ?_
  rintro r w1 ⟨u, rfl, hN, hb1⟩
  have sR : w.heap.size < W0.heap.size := block_lt_of_cell hR0.c0
  have hal := bel_al (o := .cells #[.bool u.s, .slice u.p u.n u.c] 26) (Below.refl w1.heap.size w1)
  have hC : Bx (w1.alloc (.cells #[.bool u.s, .slice u.p u.n u.c] 26)) w1.heap.size (.bool u.s) (.slice u.p u.n u.c) := Bx.new _ _ _ rfl
  obtain ⟨q0, q1, -, -⟩ := id hC
  obtain ⟨r0, r1, f0, f1⟩ := (hR0.later hb1).later hal
  have hN2 := hN.below hal
  have hB2 := bnext' (bnext' hal0 hb1) hal
  clear hN
  go_wp2_with fail
  generalize w1.alloc (.cells #[.bool u.s, .slice u.p u.n u.c] 26) = W2 at *
  refine bodyPost_ret (v := .tuple #[.agg #[.bool u.s, .slice u.p u.n u.c], .slice none 0 0]) (by simp [results, Tryz.results105, go_sem, r0, r1]) rfl ?_
  exact ⟨u, none, 0, [], rfl, (hN2.set2 (g := w.heap.size) (o := 0) sR _ _).mono (Nat.le_of_lt sR), ⟨rfl, rfl, rfl, PL.nil, nofun, fun j hj => absurd hj (by omega)⟩, bset2 hB2 (Nat.le_refl _) _ _⟩
set_option maxHeartbeats 2000000 in
set_option maxRecDepth 100000 in
/-- upoly.Prim. -/
theorem uPrim_any {w : World} {K : Nat} {p : Option Addr} {n nc : Nat} {es : List Ent} {zs : List Int} (h : PA w K p n nc es zs) (hn : n ≤ 100000) (hK : K < 150) (hK1 : 1 ≤ K) :
    Calls Tryz.prog 49 #[.slice p n nc] w (PnP (prml (tr zs)) K w) := by
  go_enter Tryz.func49, Tryz.ntmps49
  go_wp2_with fail
  refine (read_any K p n nc es zs w h (by omega) (by omega)).mono ?_
  rintro r w1 ⟨p1, n1, es1, rfl, h1, hb1⟩
  have hn1 := h1.zl
  rw [length_tr] at hn1
  have hle := tlen_le zs
  have hzl := h.zl
  have hpt : Calls Tryz.prog 105 #[.slice p1 n1 n1] w1 (PtP (tr zs) K w1) := by
    rcases Nat.eq_zero_or_pos n1 with h0 | h0
    · have e : tr zs = [] := List.eq_nil_of_length_eq_zero (by rw [length_tr]; omega)
      rw [e] at h1 ⊢
      subst h0
      exact parts_nil K hK hK1 (h1.pa (by omega))
    · exact parts_any h1 (by omega) h0 hK hK1
  have HB : Hid (Below w.heap.size w w1) := hb1
  clear h1 hn1 hle hzl h hb1
  go_wp2_with fail
  refine hpt.mono ?_
  rintro r w2 ⟨u, p2, n2, es2, rfl, -, h2, hb2⟩
  have hal := bel_al (o := .cells #[.bool u.s, .slice u.p u.n u.c] 26) (Below.refl w2.heap.size w2)
  have HR : Hid (PnP (prml (tr zs)) K w (.returned (.slice p2 n2 n2)) (w2.alloc (.cells #[.bool u.s, .slice u.p u.n u.c] 26))) := ⟨p2, n2, es2, rfl, (h2.below hal).mono HB.out.size, bnext' (bnext' HB.out hb2) hal⟩
  clear hpt h2
  go_wp2
  go_ret
  exact HR.out
end Go.Proofs.YtppidaeoikahoaaGreatDoor
/-
  ashlarref1.small.
-/
namespace Go.Proofs.YtppidaeoikahoaaGreatDoor
open Go.RowKit
set_option linter.unusedVariables false
set_option linter.unusedSimpArgs false

/-- What small answers. -/
def SmPost (n : Nat) (ds : List Int) (m : Int) (w : World) (e : Ending) (w' : World) : Prop :=
  ∃ Q c, e = .returned (.tuple #[.slice (some ⟨w.heap.size, 0, none⟩) n n, .int .i64 c]) ∧ Q.length = n ∧ U16 Q ∧ 0 ≤ c ∧ c < m ∧ vd ds = vd Q * m + c ∧ Row w' w.heap.size 3 .i64 Q ∧ Below w.heap.size w w'

theorem vd_drop_cons (xs : List Int) (i : Nat) (h : i < xs.length) : vd (xs.drop i) = gx xs i + 65536 * vd (xs.drop (i + 1)) := by
  rw [drop_cons xs i h]; rfl

set_option maxRecDepth 100000 in
set_option maxHeartbeats 2000000 in
/-- ashlarref1.small. -/
theorem rsmall_any (p : Option Addr) (n nc : Nat) (ds : List Int) (m : Int) (w : World) (hl : ds.length = n) (hn : n ≤ 1000000) (hX : Rd w p .i64 ds) (hU : U16 ds) (hm0 : 0 < m) (hm1 : m < 65536) :
    Calls Tryz.prog 168 #[.slice p n nc, .int .i64 m] w (SmPost n ds m w) := by
  have hmk := mk_int n (by omega)
  have HL : Hid (ds.length = n) := hl
  clear hl
  have hrow := Row.new w 3 .i64 (zeros n)
  have hbel : Below w.heap.size w (w.alloc (.cells (ca .i64 (zeros n)) 3)) := (Below.refl _ _).alloc (Nat.le_refl _) _
  have HB : Hid (Row (w.alloc (.cells (ca .i64 (zeros n)) 3)) w.heap.size 3 .i64 (zeros n) ∧ Below w.heap.size w (w.alloc (.cells (ca .i64 (zeros n)) 3))) := ⟨hrow, hbel⟩
  clear hrow hbel
  have hmz : (m == 0) = false := beq_eq_false_iff_ne.2 (by omega)
  go_enter Tryz.func168, Tryz.ntmps168
  go_wp2
  generalize w.alloc (.cells (ca .i64 (zeros n)) 3) = W at *
  go_loopw [7, 8] (fun cv iv wr => ∃ (t : Nat) (c : Int) (Q : List Int), t ≤ n ∧ iv = .int .i64 ((t : Int) - 1) ∧ cv = .int .i64 c ∧ 0 ≤ c ∧ c < m ∧ Hid (Q.length = n ∧ U16 Q ∧ vd (ds.drop t) = vd (Q.drop t) * m + c ∧ Row wr w.heap.size 3 .i64 Q ∧ Below w.heap.size w wr)) (fun _ iv _ => (intOf iv + 1).toNat)
  case atStart => exact ⟨n, 0, zeros n, Nat.le_refl _, by go_num, rfl, by decide, hm0, length_zeros n, u16_zeros n, by rw [List.drop_of_length_le (by have := HL.out; omega), List.drop_of_length_le (by rw [length_zeros]; omega)]; simp [vd], HB.out.1, HB.out.2⟩
  case round =>
    obtain ⟨t, c, Q, ht, rfl, rfl, hc0, hc1, H⟩ := hrel
    by_cases h0 : t = 0
    · subst h0
      go_wp2
      go_ret2
      obtain ⟨h1, h2, h3, h4, h5⟩ := H.out
      rw [List.drop_zero, List.drop_zero] at h3
      exact ⟨Q, c, rfl, h1, h2, hc0, hc1, h3, h4, h5⟩
    · obtain ⟨i, rfl⟩ : ∃ i, t = i + 1 := ⟨t - 1, by omega⟩
      have ei : ((i + 1 : Nat) : Int) - 1 = (i : Int) := by omega
      rw [ei]
      clear ei
      obtain ⟨h1, h2, h3, h4, h5⟩ := H.out
      obtain ⟨b, off, rfl, hcell⟩ := (hX.below h5) (by have := HL.out; omega)
      have g1 := hcell i (by have := HL.out; omega)
      have g2 := h4.cell i (by omega)
      have g3 := h4.frozen i
      obtain ⟨x0, x1⟩ := hU i
      have iI : (i : Int) < (n : Int) := by omega
      have hq0 : 0 ≤ (c * 65536 + gx ds i) / m := Int.ediv_nonneg (by omega) (by omega)
      have hq1 : (c * 65536 + gx ds i) / m < 65536 := Int.ediv_lt_of_lt_mul hm0 (by
        have : (c + 1) * 65536 ≤ m * 65536 := Int.mul_le_mul_of_nonneg_right (by omega) (by decide)
        omega)
      have hr0 := Int.emod_nonneg (c * 65536 + gx ds i) (show m ≠ 0 by omega)
      have hr1 := Int.emod_lt_of_pos (c * 65536 + gx ds i) hm0
      have hrd := Int.emod_add_mul_ediv (c * 65536 + gx ds i) m
      have HR : Hid ((c * 65536 + gx ds i) % m + m * ((c * 65536 + gx ds i) / m) = c * 65536 + gx ds i) := hrd
      have q1 : (c * 65536 + gx ds i).tdiv m = (c * 65536 + gx ds i) / m := Int.tdiv_eq_ediv_of_nonneg (by omega)
      have q2 : (c * 65536 + gx ds i).tmod m = (c * 65536 + gx ds i) % m := Int.tmod_eq_emod_of_nonneg (by omega)
      clear h1 h2 h3 h4 h5 hcell hrd
      go_wp2
      obtain ⟨h1, h2, h3, h4, h5⟩ := H.out
      refine ⟨⟨i, _, Q.set i ((c * 65536 + gx ds i) / m), by omega, rfl, rfl, hr0, hr1, by rw [List.length_set]; exact h1, u16_set h2 _ ⟨hq0, hq1⟩, ?_, h4.set i _, h5.setCell (p := ⟨w.heap.size, i, none⟩) (Nat.le_refl _) _⟩, by simp [intOf]⟩
      rw [vd_drop_cons ds i (by have := HL.out; omega), h3, vd_drop_cons _ i (by rw [List.length_set]; omega), gx_set_eq Q i _ (by omega), List.drop_set_of_lt (by omega), Int.add_mul, Int.mul_assoc]
      have e := HR.out
      have e2 : (c * 65536 + gx ds i) / m * m = m * ((c * 65536 + gx ds i) / m) := Int.mul_comm ..
      rw [e2]
      omega
end Go.Proofs.YtppidaeoikahoaaGreatDoor
/-
  ashlarref1.times.
-/
namespace Go.Proofs.YtppidaeoikahoaaGreatDoor
open Go.RowKit
set_option linter.unusedVariables false
set_option linter.unusedSimpArgs false

/-- What times answers. -/
def TmPost (n : Nat) (V : Int) (w : World) (e : Ending) (w' : World) : Prop :=
  ∃ R, e = .returned (.slice (some ⟨w.heap.size, 0, none⟩) (n + 1) (n + 1)) ∧ R.length = n + 1 ∧ U16 R ∧ vd R = V ∧ Row w' w.heap.size 3 .i64 R ∧ Below w.heap.size w w'
theorem mul_bd17 {v x : Int} (h1 : 0 ≤ v ∧ v < 65536) (h2 : 0 ≤ x ∧ x ≤ 65536) : 0 ≤ v * x ∧ v * x ≤ 4294901760 := by
  refine ⟨Int.mul_nonneg h1.1 h2.1, ?_⟩
  have a1 : v * x ≤ v * 65536 := Int.mul_le_mul_of_nonneg_left (by omega) h1.1
  omega

set_option maxRecDepth 100000 in
set_option maxHeartbeats 2000000 in
/-- ashlarref1.times. -/
theorem rtimes_any (p : Option Addr) (n nc : Nat) (ds : List Int) (m : Int) (w : World) (hl : ds.length = n) (hn : n ≤ 1000000) (hX : Rd w p .i64 ds) (hU : U16 ds) (hm0 : 0 ≤ m) (hm1 : m ≤ 65536) :
    Calls Tryz.prog 169 #[.slice p n nc, .int .i64 m] w (TmPost n (vd ds * m) w) := by
  have hmk := mk_int (n + 1) (by omega)
  have ec : ((n + 1 : Nat) : Int) = (n : Int) + 1 := by omega
  rw [ec] at hmk
  clear ec
  have HL : Hid (ds.length = n) := hl
  clear hl
  have hrow := Row.new w 3 .i64 (zeros (n + 1))
  have hbel : Below w.heap.size w (w.alloc (.cells (ca .i64 (zeros (n + 1))) 3)) := (Below.refl _ _).alloc (Nat.le_refl _) _
  have HB : Hid (Row (w.alloc (.cells (ca .i64 (zeros (n + 1))) 3)) w.heap.size 3 .i64 (zeros (n + 1)) ∧ Below w.heap.size w (w.alloc (.cells (ca .i64 (zeros (n + 1))) 3))) := ⟨hrow, hbel⟩
  clear hrow hbel
  go_enter Tryz.func169, Tryz.ntmps169
  go_wp2
  generalize w.alloc (.cells (ca .i64 (zeros (n + 1))) 3) = W at *
  go_loopw [6, 7] (fun cv iv wr => ∃ (k : Nat) (c : Int) (R : List Int), k ≤ n ∧ iv = .int .i64 k ∧ cv = .int .i64 c ∧ 0 ≤ c ∧ c < 65536 ∧ Hid (R.length = n + 1 ∧ U16 R ∧ (∀ j, k ≤ j → gx R j = 0) ∧ vd (R.take k) + pd k * c = vd (ds.take k) * m ∧ Row wr w.heap.size 3 .i64 R ∧ Below w.heap.size w wr)) (fun _ iv _ => (n - intOf iv).toNat)
  case atStart => exact ⟨0, 0, zeros (n + 1), Nat.zero_le _, by go_num, rfl, by decide, by decide, length_zeros _, u16_zeros _, fun j _ => gx_zeros _ j, by simp [vd], HB.out.1, HB.out.2⟩
  case round =>
    obtain ⟨k, c, R, hk, rfl, rfl, hc0, hc1, H⟩ := hrel
    by_cases hkn : k < n
    · obtain ⟨h1, h2, h3, h4, h5, h6⟩ := H.out
      obtain ⟨b, off, rfl, hcell⟩ := (hX.below h6) (by have := HL.out; omega)
      have g1 := hcell k (by have := HL.out; omega)
      have g2 := h5.cell k (by omega)
      have g3 := h5.frozen k
      have hb := mul_bd17 (hU k) ⟨hm0, hm1⟩
      have hkI : (k : Int) < (n : Int) := by omega
      have hkI2 : (k : Int) < (n : Int) + 1 := by omega
      have q1 : (c + gx ds k * m).tmod 65536 = (c + gx ds k * m) % 65536 := Int.tmod_eq_emod_of_nonneg (by omega)
      have q2 : (c + gx ds k * m).tdiv 65536 = (c + gx ds k * m) / 65536 := Int.tdiv_eq_ediv_of_nonneg (by omega)
      clear h1 h2 h3 h4 h5 h6 hcell
      go_wp2
      obtain ⟨h1, h2, h3, h4, h5, h6⟩ := H.out
      refine ⟨⟨k + 1, _, R.set k ((c + gx ds k * m) % 65536), by omega, by go_num, rfl, by omega, by omega, by rw [List.length_set]; exact h1, u16_set h2 _ (by omega), fun j hj => ?_, ?_, h5.set k _, h6.setCell (p := ⟨w.heap.size, k, none⟩) (Nat.le_refl _) _⟩, by simp [intOf]; omega⟩
      · rw [gx_set_ne R _ _ _ (by omega)]; exact h3 j (by omega)
      · rw [vd_take_succ _ k, vd_take_succ ds k, gx_set_eq R k _ (by omega), List.take_set_of_le (Nat.le_refl _), pd_succ, Int.add_mul, ← h4, Int.mul_assoc (pd k)]
        have e1 := cut16 (pd k) (c + gx ds k * m)
        rw [Int.mul_add] at e1
        omega
    · obtain rfl : k = n := by omega
      obtain ⟨h1, h2, h3, h4, h5, h6⟩ := H.out
      have g2 := h5.cell k (by omega)
      have g3 := h5.frozen k
      have hkI2 : (k : Int) < (k : Int) + 1 := by omega
      clear h1 h2 h3 h4 h5 h6
      go_wp2
      go_ret
      obtain ⟨h1, h2, h3, h4, h5, h6⟩ := H.out
      refine ⟨R.set k c, rfl, by rw [List.length_set]; exact h1, u16_set h2 _ ⟨hc0, hc1⟩, ?_, h5.set k _, h6.setCell (p := ⟨w.heap.size, k, none⟩) (Nat.le_refl _) _⟩
      rw [List.take_of_length_le (l := ds) (by have := HL.out; omega)] at h4
      have e := vd_take_succ (R.set k c) k
      rw [List.take_of_length_le (by rw [List.length_set]; omega), List.take_set_of_le (Nat.le_refl _), gx_set_eq R k c (by omega)] at e
      rw [e, h4]
end Go.Proofs.YtppidaeoikahoaaGreatDoor
/-
  ashlarref1.divide: plain facts.
-/
namespace Go.Proofs.YtppidaeoikahoaaGreatDoor
open Go.RowKit
set_option linter.unusedVariables false
set_option linter.unusedSimpArgs false

theorem vd_drop_next (xs : List Int) (i : Nat) : vd (xs.drop i) = gx xs i + 65536 * vd (xs.drop (i + 1)) := by
  by_cases h : i < xs.length
  · exact vd_drop_cons xs i h
  · rw [List.drop_of_length_le (by omega), List.drop_of_length_le (by omega), gx_past xs i (by omega) i (Nat.le_refl _)]; rfl
theorem vd_cut (xs : List Int) (i : Nat) : vd xs = vd (xs.take i) + pd i * vd (xs.drop i) := by
  by_cases h : i ≤ xs.length
  · exact vd_drop_take xs i h
  · rw [List.take_of_length_le (by omega), List.drop_of_length_le (by omega)]; simp [vd]
/-- A guess by the two highest digits is not too small. -/
theorem guess_ge {Uk v top low vt vl P Q : Int} (hP : 0 < P) (h1 : Uk = top * P + low) (h3 : low < P) (h4 : v = vt * P + vl) (h5 : 0 ≤ vl) (h6 : 0 < vt) (hQ : 0 ≤ Q) (h : Q * v ≤ Uk) : Q ≤ top / vt := by
  apply (Int.le_ediv_iff_mul_le h6).2
  have e : Q * v = (Q * vt) * P + Q * vl := by rw [h4, Int.mul_add, Int.mul_assoc]
  have h7 := Int.mul_nonneg hQ h5
  have h8 : (Q * vt) * P < (top + 1) * P := by rw [Int.add_mul, Int.one_mul]; omega
  have h9 := Int.lt_of_mul_lt_mul_right h8 (Int.le_of_lt hP)
  omega
/-- What the two highest digits are. -/
theorem top_two (us : List Int) (k n : Nat) (hn : 1 ≤ n) (hz : vd (us.drop (k + n + 1)) = 0) : vd (us.drop k) = (gx us (k + n) * 65536 + gx us (k + n - 1)) * pd (n - 1) + vd ((us.drop k).take (n - 1)) := by
  rw [vd_cut (us.drop k) (n - 1), List.drop_drop, show k + (n - 1) = k + n - 1 by omega, vd_drop_next us (k + n - 1), show k + n - 1 + 1 = k + n by omega, vd_drop_next us (k + n), hz, Int.mul_comm (pd (n - 1))]
  have : gx us (k + n - 1) + 65536 * (gx us (k + n) + 65536 * 0) = gx us (k + n) * 65536 + gx us (k + n - 1) := by omega
  rw [this]
  omega
theorem drop_zero_of {us : List Int} (h : U16 us) {k n : Nat} {v : Int} (h1 : vd (us.drop k) < v) (h2 : v ≤ pd n) : vd (us.drop (k + n)) = 0 := by
  have e := vd_cut (us.drop k) n
  rw [List.drop_drop] at e
  have h3 := vd_nonneg (u16_take (u16_drop h k) n)
  have h4 := vd_nonneg (u16_drop h (k + n))
  rcases (show vd (us.drop (k + n)) = 0 ∨ 1 ≤ vd (us.drop (k + n)) by omega) with h5 | h5
  · exact h5
  · have : pd n * 1 ≤ pd n * vd (us.drop (k + n)) := Int.mul_le_mul_of_nonneg_left h5 (Int.le_of_lt (pd_pos n))
    omega
theorem quo_le {x y Q g : Int} (hy : 0 < y) (hQ : Q = x / y) (hg : g * y ≤ x) : g ≤ Q := by
  rw [hQ]; exact (Int.le_ediv_iff_mul_le hy).2 hg
theorem quo_mul {x y : Int} (hy : 0 < y) : x / y * y ≤ x ∧ x < (x / y + 1) * y := by
  have h1 := Int.emod_add_mul_ediv x y
  have h2 := Int.emod_nonneg x (show y ≠ 0 by omega)
  have h3 := Int.emod_lt_of_pos x hy
  rw [Int.mul_comm y] at h1
  rw [Int.add_mul, Int.one_mul]
  constructor <;> omega
/-- One digit of a difference. -/
theorem sub_step (P u c d b x c' b' : Int) (hx : x = u - d - b + 65536 * b') (hc : c = d + 65536 * c') : P * x + P * (c + b) = P * u + 65536 * P * (c' + b') := by
  subst hx
  subst hc
  grind
end Go.Proofs.YtppidaeoikahoaaGreatDoor
/-
  ashlarref1.cmp.
-/
namespace Go.Proofs.YtppidaeoikahoaaGreatDoor
open Go.RowKit
set_option linter.unusedVariables false
set_option linter.unusedSimpArgs false

set_option maxHeartbeats 1000000 in
/-- ashlarref1.cmp. -/
theorem rcmp_any (p q : Option Addr) (n nc m mc : Nat) (xs ys : List Int) (w : World) (hn : xs.length = n) (hm : ys.length = m) (hnb : n ≤ 1000000000) (hmb : m ≤ 1000000000) (tx : tlen xs = n) (ty : tlen ys = m)
    (hX : Rd w p .i64 xs) (hXu : U16 xs) (hY : Rd w q .i64 ys) (hYu : U16 ys) :
    Calls Tryz.prog 121 #[.slice p n nc, .slice q m mc] w fun e w' => e = .returned (.int .i64 (icmp (vd xs) (vd ys))) ∧ Below w.heap.size w w' := by
  by_cases hne : n = m
  · subst hne
    have hb : ((n : Int) != (n : Int)) = false := by simp
    go_enter Tryz.func121, Tryz.ntmps121
    go_wp2_with fail
    go_loopw [5] (fun iv wr => ∃ k : Nat, k ≤ n ∧ iv = .int .i64 ((k : Int) - 1) ∧ Hid (xs.drop k = ys.drop k ∧ Below w.heap.size w wr)) (fun iv _ => (intOf iv + 1).toNat)
    case atStart =>
      refine ⟨n, Nat.le_refl _, by go_num, ?_, Below.refl _ _⟩
      rw [List.drop_of_length_le (by omega), List.drop_of_length_le (by omega)]
    case round =>
      obtain ⟨k, hk, rfl, H⟩ := hrel
      by_cases h0 : k = 0
      · subst h0
        go_wp2
        go_ret
        obtain ⟨hd, hb⟩ := H.out
        rw [List.drop_zero, List.drop_zero] at hd
        rw [hd, icmp_eq]
        exact ⟨rfl, hb⟩
      · obtain ⟨j, rfl⟩ : ∃ j, k = j + 1 := ⟨k - 1, by omega⟩
        have ej : ((j + 1 : Nat) : Int) - 1 = (j : Int) := by omega
        rw [ej]
        clear ej
        obtain ⟨hd, hb⟩ := H.out
        obtain ⟨b1, o1, rfl, hc1⟩ := (hX.below hb) (by omega)
        obtain ⟨b2, o2, rfl, hc2⟩ := (hY.below hb) (by omega)
        have g1 := hc1 j (by omega)
        have g2 := hc2 j (by omega)
        clear hc1 hc2 hd hb
        rcases Int.lt_trichotomy (gx xs j) (gx ys j) with hc | hc | hc
        · go_wp2
          go_quiet (fail)
          have hB := below_drewN H.out.2 nq
          generalize wr.drewN nq = wq at *
          go_wp2
          go_ret
          obtain ⟨hd, hb⟩ := H.out
          rw [icmp_lt (vd_lt_at hXu hYu j (by omega) (by omega) hd hc)]
          exact ⟨rfl, hB⟩
        · have hc1 : ¬ gx xs j < gx ys j := by omega
          have hc2 : ¬ gx ys j < gx xs j := by omega
          have HC : Hid (gx xs j = gx ys j) := hc
          clear hc
          go_wp2
          go_quiet (fail)
          have hB := below_drewN H.out.2 nq
          have e1 : (wr.drewN nq).cell? ⟨b1, o1 + j, none⟩ = some (.int .i64 (gx xs j)) := g1
          have e2 : (wr.drewN nq).cell? ⟨b2, o2 + j, none⟩ = some (.int .i64 (gx ys j)) := g2
          generalize wr.drewN nq = wq at *
          go_wp2
          go_quiet (fail)
          go_wp2
          obtain ⟨hd, hb⟩ := H.out
          refine ⟨⟨j, by omega, by go_num, drop_step j (by omega) (by omega) hd HC.out, below_drewN hB _⟩, by simp [intOf]⟩
        · have hc1 : ¬ gx xs j < gx ys j := by omega
          go_wp2
          go_quiet (fail)
          have hB := below_drewN H.out.2 nq
          have e1 : (wr.drewN nq).cell? ⟨b1, o1 + j, none⟩ = some (.int .i64 (gx xs j)) := g1
          have e2 : (wr.drewN nq).cell? ⟨b2, o2 + j, none⟩ = some (.int .i64 (gx ys j)) := g2
          generalize wr.drewN nq = wq at *
          go_wp2
          go_quiet (fail)
          go_wp2
          go_ret
          obtain ⟨hd, hb⟩ := H.out
          rw [icmp_gt (vd_lt_at hYu hXu j (by omega) (by omega) hd.symm hc)]
          exact ⟨rfl, below_drewN hB _⟩
  · have hb : ((n : Int) != (m : Int)) = true := by rw [bne_iff_ne]; omega
    rcases Nat.lt_or_ge n m with h | h
    · have h1 : (n : Int) < (m : Int) := by omega
      go_enter Tryz.func121, Tryz.ntmps121
      go_wp2
      go_ret
      rw [icmp_lt (vd_lt_len hXu hYu (by omega))]
      exact ⟨rfl, Below.refl _ _⟩
    · have h1 : ¬ (n : Int) < (m : Int) := by omega
      go_enter Tryz.func121, Tryz.ntmps121
      go_wp2
      go_ret
      rw [icmp_gt (vd_lt_len hYu hXu (by omega))]
      exact ⟨rfl, Below.refl _ _⟩
end Go.Proofs.YtppidaeoikahoaaGreatDoor
