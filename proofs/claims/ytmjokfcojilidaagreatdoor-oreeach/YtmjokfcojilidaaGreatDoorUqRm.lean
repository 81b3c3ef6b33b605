/-
  upoly: lists of residues: trimResidues, residues, scaled.
-/
import Derived.Test.YtmjokfcojilidaaGreatDoorVuWxUp
import Derived.Test.YtmjokfcojilidaaGreatDoorCyViDsAe
namespace Go.Proofs.YtmjokfcojilidaaGreatDoor
open Go.RowKit
set_option linter.unusedVariables false
set_option linter.unusedSimpArgs false

theorem info_u64 : (Tryz.prog.info? 117).map (fun i => (i.zero, i.size, i.bytes)) = some (some (.int .u64 0), 1, 8) := by kernel_rfl
theorem mk_u64 (n : Nat) (h : n ≤ 1000000000) (w : World) : (Instr.makeSlice 171 (.int .i64 n) (.int .i64 n)).run Tryz.prog w =
    .ok (.slice (some ⟨w.heap.size, 0, none⟩) n n) (w.alloc (.cells (ca .u64 (zeros n)) 117)) := by
  have hi := info_u64
  cases hq : Tryz.prog.info? 117 with
  | none => rw [hq] at hi; cases hi
  | some i =>
    rw [hq] at hi
    simp only [Option.map_some, Option.some.injEq, Prod.mk.injEq] at hi
    obtain ⟨h1, h2, h3⟩ := hi
    have hr := run_make (P := Tryz.prog) w 171 117 i (.int .u64 0) Tryz.underlying171 hq h1 .i64 .i64 n n (by omega) (Int.le_refl _) (by rw [h3]; omega) (by omega)
    rw [Int.toNat_natCast, h2] at hr
    rw [hr]
    exact congrArg (fun c => Result.ok (Value.slice (some ⟨w.heap.size, 0, none⟩) n n) (w.alloc (.cells c 117))) (made_zeros .u64 n)
set_option maxHeartbeats 400000 in
/-- upoly.trimResidues. -/
theorem trimRes_any (p : Option Addr) (len cap : Nat) (xs : List Int) (w : World) (hl : xs.length = len) (hc : len ≤ cap) (hm : cap ≤ 1000000) (hx : Rd w p .u64 xs) :
    Calls Tryz.prog 194 #[.slice p len cap] w fun e w' => e = .returned (.slice p (tlen xs) cap) ∧ w = w' := by
  go_enter Tryz.func194, Tryz.ntmps194
  go_wp2
  go_loop [3] (fun n => ∃ k : Nat, k ≤ len ∧ n = .int .i64 k ∧ Hid (∀ j, k ≤ j → gx xs j = 0)) (fun n => (intOf n).toNat)
  case atStart => exact ⟨len, Nat.le_refl _, rfl, gx_past xs len (by omega)⟩
  case round =>
    obtain ⟨k, hk, rfl, hz⟩ := hrel
    by_cases h0 : k = 0
    · subst h0
      go_wp2
      go_ret
      rw [tlen_eq xs 0 hz.out (.inl rfl)]
      exact ⟨rfl, rfl⟩
    · obtain ⟨m, rfl⟩ : ∃ m, k = m + 1 := ⟨k - 1, by omega⟩
      obtain ⟨b, off, rfl, hcell⟩ := hx (by omega)
      have hcm := hcell m (by omega)
      clear hcell
      by_cases h1 : gx xs m = 0
      · have h2 : (gx xs m == 0) = true := by simp only [h1]; rfl
        go_wp2
        go_round
        case rel => exact ⟨m, by omega, by go_num, fun j hj => by
          rcases Nat.lt_or_ge m j with h | h
          · exact hz.out j h
          · have : j = m := by omega
            subst this; exact h1⟩
        case measure => simp [intOf]
      · have h2 : (gx xs m == 0) = false := by simpa using h1
        go_wp2
        go_ret
        rw [tlen_eq xs (m + 1) hz.out (.inr h1)]
        exact ⟨rfl, rfl⟩
theorem gx_map0 (f : Int → Int) (h0 : f 0 = 0) (xs : List Int) (j : Nat) : gx (xs.map f) j = f (gx xs j) := by
  unfold gx
  rw [List.getD_eq_getElem?_getD, List.getD_eq_getElem?_getD, List.getElem?_map]
  cases h : xs[j]? with
  | none => simp [h0]
  | some v => simp
/-- A list of n, of which k entries are laid. -/
def part (xs : List Int) (n k : Nat) : List Int := xs.take k ++ zeros (n - k)
theorem length_part (xs : List Int) (n k : Nat) (h : xs.length = n) (hk : k ≤ n) : (part xs n k).length = n := by simp [part, zeros]; omega
theorem part_zero (xs : List Int) (n : Nat) : part xs n 0 = zeros n := by simp [part]
theorem part_all (xs : List Int) (n : Nat) (h : xs.length = n) : part xs n n = xs := by simp [part, zeros, List.take_of_length_le, h]
theorem part_set (xs : List Int) (n k : Nat) (h : xs.length = n) (hk : k < n) : (part xs n k).set k (gx xs k) = part xs n (k + 1) := by
  have e : n - k = (n - (k + 1)) + 1 := by omega
  have hl : (xs.take k).length = k := by simp; omega
  unfold part
  rw [e, List.set_append_right _ _ (by omega), hl, Nat.sub_self]
  unfold zeros
  rw [List.replicate_succ, List.set_cons_zero, gx_mem xs k (by omega), ← List.take_append_getElem (show k < xs.length by omega)]
  simp only [List.append_assoc, List.singleton_append]
set_option maxHeartbeats 2000000 in
/-- (upoly.prime).residues. -/
theorem residues_any {w : World} {K : Nat} {p : Option Addr} {n nc : Nat} {es : List Ent} {zs : List Int} (h : PA w K p n nc es zs) (hn : n ≤ 100000) (m : Int) (hm : 2 ≤ m) (hm2 : m ≤ 2147483647) :
    Calls Tryz.prog 177 #[.int .u64 m, .slice p n nc] w fun e w' => e = .returned (.slice (some ⟨w.heap.size, 0, none⟩) (tlen (zs.map (· % m))) n) ∧ Row w' w.heap.size 117 .u64 (zs.map (· % m)) ∧ Below w.heap.size w w' := by
  have hmk := mk_u64 n (by omega)
  have hle := h.el
  have hzl := h.zl
  generalize hr : zs.map (· % m) = rs
  have HR : Hid (∀ j, gx rs j = gx zs j % m) := fun j => by rw [← hr]; exact gx_map0 (· % m) (by simp) zs j
  have hrl : rs.length = n := by rw [← hr]; simp; omega
  clear hr
  go_enter Tryz.func177, Tryz.ntmps177
  go_wp2_with fail
  have hR0 := Row.new w 117 .u64 (zeros n)
  have hW0 : Below w.heap.size w (w.alloc (.cells (ca .u64 (zeros n)) 117)) := (Below.refl _ _).alloc (Nat.le_refl _) _
  generalize w.alloc (.cells (ca .u64 (zeros n)) 117) = W0 at *
  clear hmk
  go_loopw [6, 7, 13] (fun iv cv kv wr => ∃ k : Nat, k ≤ n ∧ kv = .int .i64 k ∧ Hid (Row wr w.heap.size 117 .u64 (part rs n k) ∧ Below w.heap.size w wr)) (fun _ _ kv _ => n - (intOf kv).toNat)
  case atStart => exact ⟨0, Nat.zero_le _, by go_num, by rw [part_zero]; exact hR0, hW0⟩
  case round =>
    obtain ⟨k, hk, rfl, H⟩ := hrel
    rcases Nat.lt_or_ge k n with hlt | hge
    · obtain ⟨hR, hB⟩ := H.out
      have hPA := h.below hB
      obtain ⟨b, o, hp, hc⟩ := hPA.pl (by omega)
      subst hp
      obtain ⟨c0, c1⟩ := hc k (by omega)
      have hv := hPA.ev k hlt
      have hsR := hR.lt
      have HH : Hid (Row wr w.heap.size 117 .u64 (part rs n k) ∧ Below w.heap.size w wr) := H.out
      clear H hR hB hc hPA
      go_wp2_with fail
      have hal := bel_al (o := .cells #[.bool (ge es k).s, .slice (ge es k).p (ge es k).n (ge es k).c] 24) (Below.refl wr.heap.size wr)
      refine (of_ev (hv.below hal) m hm hm2).mono ?_
      rintro e w1 ⟨rfl, hb1⟩
      obtain ⟨hR, hB⟩ := HH.out
      have hb2 := bnext' hal hb1
      have hR1 := hR.below hb2 hsR
      have d0 := hR1.cell k (by rw [length_part rs n k hrl hk]; exact hlt)
      have f0 := hR1.frozen k
      have hB1 := bnext' hB hb2
      have hxk := HR.out k
      have hxk' : gx zs k % m = gx rs k := hxk.symm
      have HI : Hid (Row w1 w.heap.size 117 .u64 (part rs n k) ∧ Below w.heap.size w w1) := ⟨hR1, hB1⟩
      clear hR hB hb2 hR1 hB1 hal hb1 hv c0 c1 HH hxk
      go_wp2
      go_roundw
      case rel =>
        obtain ⟨hR, hB⟩ := HI.out
        refine ⟨k + 1, by omega, by go_num, ?_, hB.setCell (p := ⟨w.heap.size, k, none⟩) (Nat.le_refl _) _⟩
        rw [← part_set rs n k hrl hlt]
        exact hR.set k _
      case measure => simp [intOf]; omega
    · obtain rfl : k = n := by omega
      obtain ⟨hR, hB⟩ := H.out
      rw [part_all rs k hrl] at hR
      have HI : Hid (Row wr w.heap.size 117 .u64 rs ∧ Below w.heap.size w wr) := ⟨hR, hB⟩
      clear H hR hB hge hk
      go_wp2_with fail
      refine (trimRes_any _ _ _ rs wr hrl (Nat.le_refl _) (by omega) HI.out.1.rd_all).mono ?_
      rintro e w1 ⟨rfl, rfl⟩
      go_wp2
      go_ret
      exact ⟨rfl, HI.out⟩
set_option maxHeartbeats 2000000 in
/-- (upoly.prime).scaled. -/
theorem scaled_any (q : Option Addr) (n nc : Nat) (xs : List Int) (m c : Int) (w : World) (hl : xs.length = n) (hn : n ≤ 100000) (hX : Rd w q .u64 xs) (hx : ∀ j, 0 ≤ gx xs j ∧ gx xs j < m) (hm : 2 ≤ m) (hm2 : m ≤ 2147483647) (c0 : 0 ≤ c) (c1 : c < m) :
    Calls Tryz.prog 181 #[.int .u64 m, .slice q n nc, .int .u64 c] w fun e w' => e = .returned (.slice (some ⟨w.heap.size, 0, none⟩) n n) ∧ Row w' w.heap.size 117 .u64 (xs.map (· * c % m)) ∧ Below w.heap.size w w' := by
  have hmk := mk_u64 n (by omega)
  generalize hr : xs.map (· * c % m) = rs
  have HR : Hid (∀ j, gx rs j = gx xs j * c % m) := fun j => by rw [← hr]; exact gx_map0 (· * c % m) (by simp) xs j
  have hrl : rs.length = n := by rw [← hr]; simp; omega
  have HX : Hid (Rd w q .u64 xs ∧ ∀ j, 0 ≤ gx xs j ∧ gx xs j < m) := ⟨hX, hx⟩
  clear hr hX hx
  go_enter Tryz.func181, Tryz.ntmps181
  go_wp2_with fail
  have hR0 := Row.new w 117 .u64 (zeros n)
  have hW0 : Below w.heap.size w (w.alloc (.cells (ca .u64 (zeros n)) 117)) := (Below.refl _ _).alloc (Nat.le_refl _) _
  generalize w.alloc (.cells (ca .u64 (zeros n)) 117) = W0 at *
  clear hmk
  go_loopw [8, 9, 15] (fun iv cv kv wr => ∃ k : Nat, k ≤ n ∧ kv = .int .i64 k ∧ Hid (Row wr w.heap.size 117 .u64 (part rs n k) ∧ Below w.heap.size w wr)) (fun _ _ kv _ => n - (intOf kv).toNat)
  case atStart => exact ⟨0, Nat.zero_le _, by go_num, by rw [part_zero]; exact hR0, hW0⟩
  case round =>
    obtain ⟨k, hk, rfl, H⟩ := hrel
    rcases Nat.lt_or_ge k n with hlt | hge
    · obtain ⟨hR, hB⟩ := H.out
      obtain ⟨b, o, hp, hc⟩ := (HX.out.1.below hB) (by omega)
      subst hp
      have e0 := hc k (by omega)
      obtain ⟨x0, x1⟩ := HX.out.2 k
      have HH : Hid (Row wr w.heap.size 117 .u64 (part rs n k) ∧ Below w.heap.size w wr) := H.out
      clear H hR hB hc
      go_wp2_with fail
      refine (times_any m (gx xs k) c _ hm hm2 x0 x1 c0 c1).mono ?_
      rintro e w1 ⟨rfl, rfl⟩
      obtain ⟨hR, hB⟩ := HH.out
      have d0 := hR.cell k (by rw [length_part rs n k hrl hk]; exact hlt)
      have f0 := hR.frozen k
      have hxk := HR.out k
      have hxk' : gx xs k * c % m = gx rs k := hxk.symm
      clear hR hB hxk e0
      go_wp2
      go_roundw
      case rel =>
        obtain ⟨hR, hB⟩ := HH.out
        refine ⟨k + 1, by omega, by go_num, ?_, hB.setCell (p := ⟨w.heap.size, k, none⟩) (Nat.le_refl _) _⟩
        rw [← part_set rs n k hrl hlt]
        exact hR.set k _
      case measure => simp [intOf]; omega
    · obtain rfl : k = n := by omega
      obtain ⟨hR, hB⟩ := H.out
      rw [part_all rs k hrl] at hR
      have HI : Hid (Row wr w.heap.size 117 .u64 rs ∧ Below w.heap.size w wr) := ⟨hR, hB⟩
      clear H hR hB hge hk
      go_wp2
      go_ret
      exact ⟨rfl, HI.out⟩
end Go.Proofs.YtmjokfcojilidaaGreatDoor
/-
  ashlarref1.Mul.
-/
namespace Go.Proofs.YtmjokfcojilidaaGreatDoor
open Go.RowKit
set_option linter.unusedVariables false
set_option linter.unusedSimpArgs false

theorem mul_bd16 {v x : Int} (h1 : 0 ≤ v ∧ v < 65536) (h2 : 0 ≤ x ∧ x < 65536) : 0 ≤ v * x ∧ v * x ≤ 4294836225 := by
  refine ⟨Int.mul_nonneg h1.1 h2.1, ?_⟩
  have a1 : v * x ≤ v * 65535 := Int.mul_le_mul_of_nonneg_left (by omega) h1.1
  omega
theorem mul_lt_pd {a b : List Int} {i j : Nat} (ha : U16 a) (hb : U16 b) (hi : a.length ≤ i) (hj : b.length ≤ j) : vd a * vd b < pd (i + j) := by
  have a1 := vd_lt ha
  have b1 := vd_lt hb
  have a0 := vd_nonneg ha
  have b0 := vd_nonneg hb
  have a2 := pd_mono hi
  have b2 := pd_mono hj
  rw [pd_add]
  have c1 : vd a * vd b ≤ vd a * pd j := Int.mul_le_mul_of_nonneg_left (by omega) a0
  have c2 : vd a * pd j < pd i * pd j := Int.mul_lt_mul_of_pos_right (by omega) (pd_pos j)
  omega

set_option maxRecDepth 100000 in
set_option maxHeartbeats 4000000 in
/-- ashlarref1.Mul. -/
theorem rMul_any (s t : Bool) (p q : Option Addr) (n nc m mc : Nat) (xs ys : List Int) (w : World) (hn : xs.length = n) (hm : ys.length = m) (hnb : n ≤ 1000000) (hmb : m ≤ 1000000) (hX : Rd w p .i64 xs) (hXu : U16 xs) (hY : Rd w q .i64 ys) (hYu : U16 ys) :
    Calls Tryz.prog 86 #[.agg #[.bool s, .slice p n nc], .agg #[.bool t, .slice q m mc]] w (RAns (n + m + 1) (rval s xs * rval t ys) w) := by
  have hmk := mk_int (n + m + 1) (by omega)
  have ec : ((n + m + 1 : Nat) : Int) = (n : Int) + (m : Int) + 1 := by omega
  rw [ec] at hmk
  clear ec
  have HN : Hid (xs.length = n ∧ ys.length = m) := ⟨hn, hm⟩
  clear hn hm
  go_enter Tryz.func86, Tryz.ntmps86
  go_wp2
  have hrow := Row.new3 w (Obj.cells #[Value.bool s, Value.slice p n nc] 30) (Obj.cells #[Value.bool t, Value.slice q m mc] 30) (Obj.cells #[Value.bool false, Value.slice none 0 0] 30) 3 .i64 (zeros (n + m + 1))
  have hWs : (((w.alloc (Obj.cells #[Value.bool s, Value.slice p n nc] 30)).alloc (Obj.cells #[Value.bool t, Value.slice q m mc] 30)).alloc (Obj.cells #[Value.bool false, Value.slice none 0 0] 30)).heap.size = w.heap.size + 1 + 1 + 1 := by simp
  have hX3 := boxes3' w (.bool s) (.slice p n nc) (.bool t) (.slice q m mc) (.bool false) (.slice none 0 0) 30 30 30
  generalize ((w.alloc (Obj.cells #[Value.bool s, Value.slice p n nc] 30)).alloc (Obj.cells #[Value.bool t, Value.slice q m mc] 30)).alloc (Obj.cells #[Value.bool false, Value.slice none 0 0] 30) = W at *
  have hXW := hX.below hX3.below
  have hYW := hY.below hX3.below
  have HWs : Hid (W.heap.size = w.heap.size + 1 + 1 + 1) := hWs
  clear hWs
  have hbel : Below W.heap.size W (W.alloc (.cells (ca .i64 (zeros (n + m + 1))) 3)) := (Below.refl _ _).alloc (Nat.le_refl _) _
  generalize W.alloc (.cells (ca .i64 (zeros (n + m + 1))) 3) = W1 at *
  have HST : Hid (Row W1 (w.heap.size + 1 + 1 + 1) 3 .i64 (zeros (n + m + 1)) ∧ Below W.heap.size W W1) := ⟨hrow, hbel⟩
  clear hrow hbel hmk
  go_loopw [6] (fun iv wr => ∃ (i : Nat) (D : List Int), i ≤ n ∧ iv = .int .i64 i ∧ Hid (D.length = n + m + 1 ∧ U16 D ∧ vd D = vd (xs.take i) * vd ys ∧ Row wr (w.heap.size + 1 + 1 + 1) 3 .i64 D ∧ Below W.heap.size W wr)) (fun iv _ => n - (intOf iv).toNat)
  case atStart => exact ⟨0, zeros (n + m + 1), Nat.zero_le _, rfl, length_zeros _, u16_zeros _, by simp [vd_zero, vd], HST.out.1, HST.out.2⟩
  case round =>
    obtain ⟨i, D, hi, rfl, H⟩ := hrel
    have hXr := hX3.later H.out.2.2.2.2
    have k1 := hXr.ca1
    have k3 := hXr.cb1
    by_cases hlt : i < n
    · have hltI : (i : Int) < (n : Int) := by omega
      clear hXr
      go_wp2
      go_loopw [7, 8] (fun cv jv wr' => ∃ (j : Nat) (c : Int) (T : List Int), j ≤ m ∧ jv = .int .i64 j ∧ cv = .int .i64 c ∧ 0 ≤ c ∧ c < 65536 ∧ Hid (T.length = n + m + 1 ∧ U16 T ∧ vd T + pd (i + j) * c = vd D + pd i * (gx xs i * vd (ys.take j)) ∧ Row wr' (w.heap.size + 1 + 1 + 1) 3 .i64 T ∧ Below W.heap.size W wr')) (fun _ jv _ => m - (intOf jv).toNat)
      case atStart =>
        obtain ⟨hl, hu, hv, hr, hg⟩ := H.out
        exact ⟨0, 0, D, Nat.zero_le _, rfl, rfl, by decide, by decide, hl, hu, by simp [vd], hr, hg⟩
      case round =>
        obtain ⟨j, c, T, hj, rfl, rfl, hc0, hc1, HT⟩ := hrel
        clear k1 k3
        have hXr := hX3.later HT.out.2.2.2.2
        have k1 := hXr.ca1
        have k3 := hXr.cb1
        clear hXr
        by_cases hjm : j < m
        · have hjI : (j : Int) < (m : Int) := by omega
          have hijI : (i : Int) + (j : Int) < (n : Int) + (m : Int) + 1 := by omega
          obtain ⟨b1, o1, rfl, hc1'⟩ := (hXW.below HT.out.2.2.2.2) (by have := HN.out; omega)
          obtain ⟨b2, o2, rfl, hc2'⟩ := (hYW.below HT.out.2.2.2.2) (by have := HN.out; omega)
          have g1 := hc1' i (by have := HN.out; omega)
          have g2 := hc2' j (by have := HN.out; omega)
          have g3 := HT.out.2.2.2.1.cell (i + j) (by have := HT.out.1; omega)
          have g4 := HT.out.2.2.2.1.frozen (i + j)
          obtain ⟨bt0, bt1⟩ := HT.out.2.1 (i + j)
          obtain ⟨bm0, bm1⟩ := mul_bd16 (hXu i) (hYu j)
          obtain ⟨bx0, bx1⟩ := hXu i
          obtain ⟨by0, by1⟩ := hYu j
          have q1 : (c + (gx T (i + j) + gx xs i * gx ys j)).tmod 65536 = (c + (gx T (i + j) + gx xs i * gx ys j)) % 65536 := Int.tmod_eq_emod_of_nonneg (by omega)
          have q2 : (c + (gx T (i + j) + gx xs i * gx ys j)).tdiv 65536 = (c + (gx T (i + j) + gx xs i * gx ys j)) / 65536 := Int.tdiv_eq_ediv_of_nonneg (by omega)
          have v0 : IntKind.i64.wrap ((i : Int) + (j : Int)) = (i : Int) + (j : Int) := by rw [IntKind.wrap_i64]; omega
          have v1 : IntKind.i64.wrap (gx xs i * gx ys j) = gx xs i * gx ys j := by rw [IntKind.wrap_i64]; omega
          have v2 : IntKind.i64.wrap (gx T (i + j) + gx xs i * gx ys j) = gx T (i + j) + gx xs i * gx ys j := by rw [IntKind.wrap_i64]; omega
          have v3 : IntKind.i64.wrap (c + (gx T (i + j) + gx xs i * gx ys j)) = c + (gx T (i + j) + gx xs i * gx ys j) := by rw [IntKind.wrap_i64]; omega
          have v4 : ((i : Int) + (j : Int)).toNat = i + j := by omega
          have v5 : 0 ≤ (i : Int) + (j : Int) := by omega
          clear hc1' hc2'
          go_wp2_with fail
          go_quiet (fail)
          go_wp2_with fail
          have hsW := HWs.out
          obtain ⟨hl, hu, hv, hr, hg⟩ := HT.out
          have hr' : Row (wr.drewN nq) (w.heap.size + 1 + 1 + 1) 3 .i64 T := hr
          refine ⟨⟨j + 1, _, T.set (i + j) ((c + (gx T (i + j) + gx xs i * gx ys j)) % 65536), by omega, by go_num, rfl, by omega, by omega, by rw [List.length_set]; exact hl, u16_set hu _ (by omega), ?_, hr'.set (i + j) _, (below_drewN hg nq).setCell (by simp only; omega) _⟩, by simp [intOf]; omega⟩
          rw [vd_set T _ _ (by omega), vd_take_succ ys j, ← Nat.add_assoc, pd_succ]
          have e := cut16 (pd (i + j)) (c + (gx T (i + j) + gx xs i * gx ys j))
          have e2 : pd i * (gx xs i * (vd (List.take j ys) + pd j * gx ys j)) = pd i * (gx xs i * vd (List.take j ys)) + pd (i + j) * (gx xs i * gx ys j) := by
            rw [pd_add, Int.mul_add, Int.mul_add]
            congr 1
            simp only [Int.mul_assoc, Int.mul_left_comm]
          rw [e2]
          simp only [Int.mul_add, Int.mul_sub] at e ⊢
          omega
        · obtain rfl : j = m := by omega
          have hjI : ¬ (j : Int) < (j : Int) := by omega
          have v0 : IntKind.i64.wrap ((i : Int) + (j : Int)) = (i : Int) + (j : Int) := by rw [IntKind.wrap_i64]; omega
          go_wp2
          go_loopw [7, 9] (fun cv kv wr' => ∃ (k : Nat) (c : Int) (T : List Int), i + j ≤ k ∧ k ≤ n + j + 1 ∧ kv = .int .i64 k ∧ cv = .int .i64 c ∧ 0 ≤ c ∧ c < 65536 ∧ Hid (T.length = n + j + 1 ∧ U16 T ∧ vd T + pd k * c = vd (xs.take (i + 1)) * vd ys ∧ Row wr' (w.heap.size + 1 + 1 + 1) 3 .i64 T ∧ Below W.heap.size W wr')) (fun _ kv _ => n + j + 1 - (intOf kv).toNat)
          case atStart =>
            obtain ⟨hl, hu, hv, hr, hg⟩ := HT.out
            refine ⟨i + j, c, T, Nat.le_refl _, by omega, by go_num, rfl, hc0, hc1, hl, hu, ?_, hr, hg⟩
            rw [hv, H.out.2.2.1, List.take_of_length_le (l := ys) (by have := HN.out; omega), vd_take_succ, Int.add_mul, Int.mul_assoc]
          case round =>
            obtain ⟨k, c2, T2, hk1, hk2, rfl, rfl, hd0, hd1, HT2⟩ := hrel
            by_cases hc : 0 < c2
            · have hkL : k < n + j + 1 := by
                rcases Nat.lt_or_ge k (n + j + 1) with h | h
                · exact h
                · exfalso
                  obtain ⟨hl, hu, hv, hr, hg⟩ := HT2.out
                  have e1 := mul_lt_pd (i := n) (j := j) (u16_take hXu (i + 1)) hYu (by have := HN.out; simp; omega) (by have := HN.out; omega)
                  have e2 : pd (n + j) ≤ pd k := pd_mono (by omega)
                  have e3 := vd_nonneg hu
                  have e4 : pd k * 1 ≤ pd k * c2 := Int.mul_le_mul_of_nonneg_left (by omega) (Int.le_of_lt (pd_pos k))
                  omega
              have hkI : (k : Int) < (n : Int) + (j : Int) + 1 := by omega
              have g3 := HT2.out.2.2.2.1.cell k (by have := HT2.out.1; omega)
              have g4 := HT2.out.2.2.2.1.frozen k
              obtain ⟨bt0, bt1⟩ := HT2.out.2.1 k
              have q1 : (c2 + gx T2 k).tmod 65536 = (c2 + gx T2 k) % 65536 := Int.tmod_eq_emod_of_nonneg (by omega)
              have q2 : (c2 + gx T2 k).tdiv 65536 = (c2 + gx T2 k) / 65536 := Int.tdiv_eq_ediv_of_nonneg (by omega)
              go_wp2
              have hsW := HWs.out
              obtain ⟨hl, hu, hv, hr, hg⟩ := HT2.out
              refine ⟨⟨k + 1, _, T2.set k ((c2 + gx T2 k) % 65536), by omega, by omega, by go_num, rfl, by omega, by omega, by rw [List.length_set]; exact hl, u16_set hu _ (by omega), ?_, hr.set k _, hg.setCell (by simp only; omega) _⟩, by simp [intOf]; omega⟩
              rw [vd_set T2 _ _ (by omega), pd_succ, ← hv]
              have e := cut16 (pd k) (c2 + gx T2 k)
              simp only [Int.mul_add, Int.mul_sub] at e ⊢
              omega
            · obtain rfl : c2 = 0 := by omega
              go_wp2
              obtain ⟨hl, hu, hv, hr, hg⟩ := HT2.out
              rw [Int.mul_zero, Int.add_zero] at hv
              refine ⟨⟨i + 1, T2, by omega, by go_num, hl, hu, hv, hr, hg⟩, by simp [intOf]; omega⟩
    · obtain rfl : i = n := by omega
      have hltI : ¬ (i : Int) < (i : Int) := by omega
      have k0 := hXr.ca0
      have k2 := hXr.cb0
      clear hXr
      go_wp2_with fail
      obtain ⟨hl, hu, hv, hr, hg⟩ := H.out
      have hXe := hX3.later hg
      refine (rtrim_any (!(s == t)) (some ⟨w.heap.size + 1 + 1 + 1, 0, none⟩) (i + m + 1) (i + m + 1) D _ hl (Nat.le_refl _) (by unfold maxLen; omega) hr.rd_all).mono ?_
      rintro e w4 ⟨rfl, hb4⟩
      have HE : Hid (D.length = i + m + 1 ∧ vd D = vd (xs.take i) * vd ys) := ⟨hl, hv⟩
      clear hl hv k0 k1 k2 k3
      obtain ⟨c0', c1', f0, f1⟩ := resbox hb4 hXe.cr0 hXe.cr1 hXe.fr0 hXe.fr1
      go_wp2
      have hsz := hX3.size
      have hsW := HWs.out
      refine bodyPost_ret (v := .agg #[.bool (nsg (!(s == t)) D), .slice (some ⟨w.heap.size + 1 + 1 + 1, 0, none⟩) (tlen D) (tlen D)]) (by simp [results, Tryz.results86, go_sem, c0', c1']) rfl ?_
      refine end_rn2 hX3.below (r := w.heap.size + 1 + 1) (by omega) (by omega) hg hb4 hr.rd_all (from_new (by omega)) hu (by have := HE.out.1; omega) (by omega) ?_
      have hv := HE.out.2
      rw [List.take_of_length_le (by have := HN.out; omega)] at hv
      rw [rval, hv, rval, rval]
      cases s <;> cases t <;> simp [Int.neg_mul, Int.mul_neg]
/-- ashlarref1.Mul of two that are known. -/
theorem rMul_rn {w : World} {s t : Bool} {p q : Option Addr} {n m : Nat} {xs ys : List Int} (h : RN w s p n xs) (k : RN w t q m ys) (hn : n ≤ 1000000) (hm : m ≤ 1000000) :
    Calls Tryz.prog 86 #[.agg #[.bool s, .slice p n n], .agg #[.bool t, .slice q m m]] w (RAns (n + m + 1) (rval s xs * rval t ys) w) :=
  rMul_any s t p q n n m m xs ys w h.len k.len hn hm h.rd h.u k.rd k.u
end Go.Proofs.YtmjokfcojilidaaGreatDoor
