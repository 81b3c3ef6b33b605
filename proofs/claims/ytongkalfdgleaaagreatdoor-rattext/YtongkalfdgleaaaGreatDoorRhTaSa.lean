/-
  What functions of the reference answer.
-/
import Derived.Test.YtongkalfdgleaaaGreatDoorRbRf
import Derived.Test.YtongkalfdgleaaaGreatDoorWiWjWo
namespace Go.Proofs.YtongkalfdgleaaaGreatDoor
open Go.RowKit
set_option linter.unusedVariables false
set_option linter.unusedSimpArgs false

theorem rval_nsg (neg : Bool) {D : List Int} (h : U16 D) : rval (nsg neg D) (tr D) = rval neg D := by
  rw [rval, rval, vd_tr, nsg]
  split
  · rename_i ht
    have h0 := (tlen_zero_iff16 h).1 ht
    simp [h0]
  · rfl
theorem rval_spl (s : Bool) (xs : List Int) : rval s (spl xs) = ival s xs := by rw [rval, ival, vd_spl]
/-- What a function of the reference answers that gives a number. -/
def RAns (N : Nat) (z : Int) (w : World) (e : Ending) (w' : World) : Prop :=
  ∃ s' p' n' ds', e = .returned (.agg #[.bool s', .slice p' n' n']) ∧ RN w' s' p' n' ds' ∧ rval s' ds' = z ∧ n' ≤ N ∧ Go.Proofs.YtongkalfdgleaaaGreatDoor.From w.heap.size p' ∧ Below w.heap.size w w'
/-- The end of a function that answers trim(neg, d), d a row of its own from block B on. -/
theorem end_rn {w W wr w4 : World} {r N : Nat} {neg : Bool} {q : Option Addr} {D : List Int} {z : Int} {u v : Value} (hbw : Below w.heap.size w W) (hr : w.heap.size ≤ r) (hr' : r < W.heap.size) (hBr : Below W.heap.size W wr) (hb4 : Below wr.heap.size wr w4)
    (hq3 : Rd wr q .i64 D) (hq4 : Go.Proofs.YtongkalfdgleaaaGreatDoor.From W.heap.size q) (hU : U16 D) (hl : tlen D ≤ 1000000000) (hv : rval neg D = z) (hN : tlen D ≤ N) :
    RAns N z w (.returned (.agg #[.bool (nsg neg D), .slice q (tlen D) (tlen D)])) ((w4.setCell ⟨r, 0, none⟩ u).setCell ⟨r, 1, none⟩ v) := by
  have htl := tlen_le D
  refine ⟨_, q, tlen D, tr D, rfl, ⟨length_tr _, ?_, u16_tr hU, tlen_tr _, fun h => by rw [nsg, if_pos h], by omega⟩, by rw [rval_nsg neg hU, hv], hN, fun a ha => Nat.le_trans hbw.size (hq4 a ha), ?_⟩
  · exact ((hq3.tr.below hb4).set_other _ _ (fun a ha => by have := hq4 a ha; simp; omega)).set_other _ _ (fun a ha => by have := hq4 a ha; simp; omega)
  · exact (((hbw.trans (hBr.mono hbw.size)).trans (hb4.mono (by have := hBr.size; have := hbw.size; omega))).setCell (p := ⟨r, 0, none⟩) hr _).setCell (p := ⟨r, 1, none⟩) hr _

/-- The end of a function that answers trim(neg, d), d what a callee has answered. -/
theorem end_rn2 {w W w1 w2 : World} {r N : Nat} {neg : Bool} {q : Option Addr} {D : List Int} {z : Int} {u v : Value} (hbw : Below w.heap.size w W) (hr : w.heap.size ≤ r) (hr' : r < W.heap.size) (hb1 : Below W.heap.size W w1) (hb2 : Below w1.heap.size w1 w2)
    (hq3 : Rd w1 q .i64 D) (hq4 : Go.Proofs.YtongkalfdgleaaaGreatDoor.From W.heap.size q) (hU : U16 D) (hl : D.length ≤ N) (hN : N ≤ 1000000000) (hv : rval neg D = z) :
    RAns N z w (.returned (.agg #[.bool (nsg neg D), .slice q (tlen D) (tlen D)])) ((w2.setCell ⟨r, 0, none⟩ u).setCell ⟨r, 1, none⟩ v) :=
  end_rn hbw hr hr' hb1 hb2 hq3 hq4 hU (by have := tlen_le D; omega) hv (by have := tlen_le D; omega)

theorem rval_not (s : Bool) (xs : List Int) : rval (!s) xs = - rval s xs := by cases s <;> simp [rval]

theorem mk_int (n : Nat) (h : n ≤ 1000000000) (w : World) : (Instr.makeSlice 29 (.int .i64 n) (.int .i64 n)).run Tryz.prog w =
    .ok (.slice (some ⟨w.heap.size, 0, none⟩) n n) (w.alloc (.cells (ca .i64 (zeros n)) 3)) := by
  have hi := info_int
  cases hq : Tryz.prog.info? 3 with
  | none => rw [hq] at hi; cases hi
  | some i =>
    rw [hq] at hi
    simp only [Option.map_some, Option.some.injEq, Prod.mk.injEq] at hi
    obtain ⟨h1, h2, h3⟩ := hi
    have hr := run_make (P := Tryz.prog) w 29 3 i (.int .i64 0) Tryz.underlying29 hq h1 .i64 .i64 n n (by omega) (Int.le_refl _) (by rw [h3]; omega) (by omega)
    rw [Int.toNat_natCast, h2] at hr
    rw [hr]
    exact congrArg (fun c => Result.ok (Value.slice (some ⟨w.heap.size, 0, none⟩) n n) (w.alloc (.cells c 3))) (made_zeros .i64 n)
end Go.Proofs.YtongkalfdgleaaaGreatDoor
/-
  ashlarref1.small.
-/
namespace Go.Proofs.YtongkalfdgleaaaGreatDoor
open Go.RowKit
set_option linter.unusedVariables false
set_option linter.unusedSimpArgs false

/-- What small answers. -/
def SmPost (n : Nat) (ds : List Int) (m : Int) (w : World) (e : Ending) (w' : World) : Prop :=
  ∃ Q c, e = .returned (.tuple #[.slice (some ⟨w.heap.size, 0, none⟩) n n, .int .i64 c]) ∧ Q.length = n ∧ U16 Q ∧ 0 ≤ c ∧ c < m ∧ vd ds = vd Q * m + c ∧ Row w' w.heap.size 3 .i64 Q ∧ Below w.heap.size w w'

theorem vd_drop_cons (xs : List Int) (i : Nat) (h : i < xs.length) : vd (xs.drop i) = gx xs i + 65536 * vd (xs.drop (i + 1)) := by
  rw [drop_cons xs i h]; rfl

set_option maxRecDepth 100000 in
set_option maxHeartbeats 2000000 in
/-- ashlarref1.small. -/
theorem rsmall_any (p : Option Addr) (n nc : Nat) (ds : List Int) (m : Int) (w : World) (hl : ds.length = n) (hn : n ≤ 1000000) (hX : Rd w p .i64 ds) (hU : U16 ds) (hm0 : 0 < m) (hm1 : m < 65536) :
    Calls Tryz.prog 91 #[.slice p n nc, .int .i64 m] w (SmPost n ds m w) := by
  have hmk := mk_int n (by omega)
  have HL : Hid (ds.length = n) := hl
  clear hl
  have hrow := Row.new w 3 .i64 (zeros n)
  have hbel : Below w.heap.size w (w.alloc (.cells (ca .i64 (zeros n)) 3)) := (Below.refl _ _).alloc (Nat.le_refl _) _
  have HB : Hid (Row (w.alloc (.cells (ca .i64 (zeros n)) 3)) w.heap.size 3 .i64 (zeros n) ∧ Below w.heap.size w (w.alloc (.cells (ca .i64 (zeros n)) 3))) := ⟨hrow, hbel⟩
  clear hrow hbel
  have hmz : (m == 0) = false := beq_eq_false_iff_ne.2 (by omega)
  go_enter Tryz.func91, Tryz.ntmps91
  go_wp2
  generalize w.alloc (.cells (ca .i64 (zeros n)) 3) = W at *
  go_loopw [7, 8] (fun cv iv wr => ∃ (t : Nat) (c : Int) (Q : List Int), t ≤ n ∧ iv = .int .i64 ((t : Int) - 1) ∧ cv = .int .i64 c ∧ 0 ≤ c ∧ c < m ∧ Hid (Q.length = n ∧ U16 Q ∧ vd (ds.drop t) = vd (Q.drop t) * m + c ∧ Row wr w.heap.size 3 .i64 Q ∧ Below w.heap.size w wr)) (fun _ iv _ => (intOf iv + 1).toNat)
  case atStart => exact ⟨n, 0, zeros n, Nat.le_refl _, by go_num, rfl, by decide, hm0, length_zeros n, u16_zeros n, by rw [List.drop_of_length_le (by have := HL.out; omega), List.drop_of_length_le (by rw [length_zeros]; omega)]; simp [vd], HB.out.1, HB.out.2⟩
  case round =>
    obtain ⟨t, c, Q, ht, rfl, rfl, hc0, hc1, H⟩ := hrel
    by_cases h0 : t = 0
    · subst h0
      go_wp2
      go_ret2
      obtain ⟨h1, h2, h3, h4, h5⟩ := H.out
      rw [List.drop_zero, List.drop_zero] at h3
      exact ⟨Q, c, rfl, h1, h2, hc0, hc1, h3, h4, h5⟩
    · obtain ⟨i, rfl⟩ : ∃ i, t = i + 1 := ⟨t - 1, by omega⟩
      have ei : ((i + 1 : Nat) : Int) - 1 = (i : Int) := by omega
      rw [ei]
      clear ei
      obtain ⟨h1, h2, h3, h4, h5⟩ := H.out
      obtain ⟨b, off, rfl, hcell⟩ := (hX.below h5) (by have := HL.out; omega)
      have g1 := hcell i (by have := HL.out; omega)
      have g2 := h4.cell i (by omega)
      have g3 := h4.frozen i
      obtain ⟨x0, x1⟩ := hU i
      have iI : (i : Int) < (n : Int) := by omega
      have hq0 : 0 ≤ (c * 65536 + gx ds i) / m := Int.ediv_nonneg (by omega) (by omega)
      have hq1 : (c * 65536 + gx ds i) / m < 65536 := Int.ediv_lt_of_lt_mul hm0 (by
        have : (c + 1) * 65536 ≤ m * 65536 := Int.mul_le_mul_of_nonneg_right (by omega) (by decide)
        omega)
      have hr0 := Int.emod_nonneg (c * 65536 + gx ds i) (show m ≠ 0 by omega)
      have hr1 := Int.emod_lt_of_pos (c * 65536 + gx ds i) hm0
      have hrd := Int.emod_add_mul_ediv (c * 65536 + gx ds i) m
      have HR : Hid ((c * 65536 + gx ds i) % m + m * ((c * 65536 + gx ds i) / m) = c * 65536 + gx ds i) := hrd
      have q1 : (c * 65536 + gx ds i).tdiv m = (c * 65536 + gx ds i) / m := Int.tdiv_eq_ediv_of_nonneg (by omega)
      have q2 : (c * 65536 + gx ds i).tmod m = (c * 65536 + gx ds i) % m := Int.tmod_eq_emod_of_nonneg (by omega)
      clear h1 h2 h3 h4 h5 hcell hrd
      go_wp2
      obtain ⟨h1, h2, h3, h4, h5⟩ := H.out
      refine ⟨⟨i, _, Q.set i ((c * 65536 + gx ds i) / m), by omega, rfl, rfl, hr0, hr1, by rw [List.length_set]; exact h1, u16_set h2 _ ⟨hq0, hq1⟩, ?_, h4.set i _, h5.setCell (p := ⟨w.heap.size, i, none⟩) (Nat.le_refl _) _⟩, by simp [intOf]⟩
      rw [vd_drop_cons ds i (by have := HL.out; omega), h3, vd_drop_cons _ i (by rw [List.length_set]; omega), gx_set_eq Q i _ (by omega), List.drop_set_of_lt (by omega), Int.add_mul, Int.mul_assoc]
      have e := HR.out
      have e2 : (c * 65536 + gx ds i) / m * m = m * ((c * 65536 + gx ds i) / m) := Int.mul_comm ..
      rw [e2]
      omega
end Go.Proofs.YtongkalfdgleaaaGreatDoor
/-
  limbs.isNumeral: which texts are numerals.
-/
namespace Go.Proofs.YtongkalfdgleaaaGreatDoor
open Go.RowKit
set_option linter.unusedVariables false
set_option linter.unusedSimpArgs false

/-- Bytes as integers. -/
def bz (l : List UInt8) : List Int := l.map fun c => (c.toNat : Int)
theorem length_bz (l : List UInt8) : (bz l).length = l.length := by simp [bz]
theorem gx_bz (l : List UInt8) (k : Nat) (h : k < l.length) (h' : k < (⟨l.toArray⟩ : ByteArray).size) : (((⟨l.toArray⟩ : ByteArray)[k]'h').toNat : Int) = gx (bz l) k := by
  rw [gx_mem _ _ (by rw [length_bz]; exact h)]
  simp [bz, ByteArray.getElem_eq_getElem_data]
theorem bz_cons (c : UInt8) (r : List UInt8) : bz (c :: r) = (c.toNat : Int) :: bz r := rfl
theorem size_bl (l : List UInt8) : (⟨l.toArray⟩ : ByteArray).size = l.length := by simp [ByteArray.size]
theorem ba_eq (l m : List UInt8) : ((⟨l.toArray⟩ : ByteArray) = ⟨m.toArray⟩) ↔ l = m := by simp
/-- Decimal digits. -/
def dgs (l : List UInt8) : Prop := ∀ j, j < l.length → 48 ≤ gx (bz l) j ∧ gx (bz l) j ≤ 57
/-- A numeral. -/
def numeral (l : List UInt8) : Prop := dgs l ∧ (l = [48] ∨ (l ≠ [] ∧ gx (bz l) 0 ≠ 48))

/-- What isNumeral answers. -/
def NumPost (l : List UInt8) (w : World) (e : Ending) (w' : World) : Prop := ∃ b : Bool, e = .returned (.bool b) ∧ (b = true ↔ numeral l) ∧ w = w'

set_option maxHeartbeats 1000000 in
theorem isNumeral_any (l : List UInt8) (w : World) (hl : l.length ≤ 1000000) :
    Calls Tryz.prog 112 #[.string ⟨l.toArray⟩] w (NumPost l w) := by
  go_enter Tryz.func112, Tryz.ntmps112
  go_wp2
  go_loop [6] (fun iv => ∃ k : Nat, k ≤ l.length ∧ iv = .int .i64 k ∧ Hid (∀ j, j < k → 48 ≤ gx (bz l) j ∧ gx (bz l) j ≤ 57)) (fun iv => (l.length - intOf iv).toNat)
  case atStart => exact ⟨0, Nat.zero_le _, by go_num, fun j hj => by omega⟩
  case round =>
    obtain ⟨k, hk, rfl, H⟩ := hrel
    by_cases hlt : k < l.length
    · have hg := gx_bz l k hlt (by rw [size_bl]; exact hlt)
      by_cases h1 : gx (bz l) k < 48
      · go_wp2
        go_ret
        exact ⟨false, rfl, ⟨(fun h => by cases h), fun h => by have := h.1 k hlt; omega⟩, rfl⟩
      · by_cases h2 : 57 < gx (bz l) k
        · go_wp2
          go_ret
          exact ⟨false, rfl, ⟨(fun h => by cases h), fun h => by have := h.1 k hlt; omega⟩, rfl⟩
        · go_wp2
          refine ⟨⟨k + 1, by omega, by go_num, fun j hj => ?_⟩, by simp [intOf]; omega⟩
          rcases Nat.lt_or_ge j k with h | h
          · exact H.out j h
          · obtain rfl : j = k := by omega
            omega
    · obtain rfl : k = l.length := by omega
      clear hlt hk
      have hd : dgs l := H.out
      have HD : Hid (dgs l) := hd
      clear hd H
      by_cases h1 : l = []
      · subst h1
        go_wp2
        go_ret
        exact ⟨false, rfl, ⟨(fun h => by cases h), fun h => by rcases h.2 with h | h; cases h; exact absurd rfl h.1⟩, rfl⟩
      · by_cases h2 : l = [48]
        · subst h2
          go_wp2
          go_ret
          exact ⟨true, rfl, ⟨fun _ => ⟨HD.out, .inl rfl⟩, fun _ => rfl⟩, rfl⟩
        · have e1 : (l == [48]) = false := by simpa using h2
          have e2 : l.isEmpty = false := by simpa using h1
          have e3 : 0 < l.length := List.length_pos_iff.2 h1
          have hg := gx_bz l 0 e3 (by rw [size_bl]; exact e3)
          have HN : Hid (l ≠ [] ∧ l ≠ [48]) := ⟨h1, h2⟩
          clear h1 h2
          by_cases h3 : gx (bz l) 0 = 48
          · have e4 : (gx (bz l) 0 != 48) = false := by simpa using h3
            have H3 : Hid (gx (bz l) 0 = 48) := h3
            clear h3
            go_wp2
            go_ret
            exact ⟨false, rfl, ⟨(fun h => by cases h), fun h => by rcases h.2 with h | h; exact absurd h HN.out.2; exact absurd H3.out h.2⟩, rfl⟩
          · have e4 : (gx (bz l) 0 != 48) = true := by simpa using h3
            have H3 : Hid (gx (bz l) 0 ≠ 48) := h3
            clear h3
            go_wp2
            go_ret
            exact ⟨true, rfl, ⟨fun _ => ⟨HD.out, .inr ⟨HN.out.1, H3.out⟩⟩, fun _ => rfl⟩, rfl⟩

/-- What CutPrefix of "-" answers. -/
def PrePost (l : List UInt8) (w : World) (e : Ending) (w' : World) : Prop := (∃ r, l = 45 :: r ∧ e = .returned (.tuple #[.string ⟨r.toArray⟩, .bool true]) ∧ w = w') ∨ ((∀ r, l ≠ 45 :: r) ∧ e = .returned (.tuple #[.string ⟨l.toArray⟩, .bool false]) ∧ w = w')

set_option maxHeartbeats 1000000 in
theorem HasPrefix_minus (l : List UInt8) (w : World) (hl : l.length ≤ maxLen) :
    Calls Tryz.prog 139 #[.string ⟨l.toArray⟩, .string ⟨#[45]⟩] w fun e w' => e = .returned (.bool (l.head? == some 45)) ∧ w = w' := by
  unfold maxLen at hl
  cases l with
  | nil =>
    go_enter Tryz.func139, Tryz.ntmps139
    go_wp2
    go_ret
    exact ⟨rfl, rfl⟩
  | cons c r =>
    go_enter Tryz.func139, Tryz.ntmps139
    go_wp2
    go_ret
    refine ⟨?_, rfl⟩
    have e : ((⟨(c :: r).toArray⟩ : ByteArray).extract 0 1).toList = [c] := by
      rw [ByteArray.extract_mk]
      simp [go_sem]
    show Ending.returned (.bool (((⟨(c :: r).toArray⟩ : ByteArray).extract 0 1).toList == [45])) = _
    rw [e]
    simp

set_option maxHeartbeats 1000000 in
theorem CutPrefix_lite (l : List UInt8) (w : World) (hl : l.length ≤ maxLen) :
    Calls Tryz.prog 128 #[.string ⟨l.toArray⟩, .string ⟨#[45]⟩] w (PrePost l w) := by
  by_cases h : ∃ r, l = 45 :: r
  · obtain ⟨r, rfl⟩ := h
    have hp := HasPrefix_minus (45 :: r) w hl
    unfold maxLen at hl
    simp only [List.length_cons] at hl
    go_enter Tryz.func128, Tryz.ntmps128
    go_wp2_with fail
    refine hp.mono ?_
    rintro e w' ⟨rfl, rfl⟩
    clear hp
    go_wp2
    go_ret2
    exact .inl ⟨r, rfl, by rw [extract_one]; rfl, rfl⟩
  · have hp := HasPrefix_minus l w hl
    have hh : (l.head? == some 45) = false := by
      cases l with
      | nil => rfl
      | cons c r => simp; intro e; exact h ⟨r, by rw [e]⟩
    rw [hh] at hp
    have HN : Hid (∀ r, l ≠ 45 :: r) := fun r e => h ⟨r, e⟩
    clear h hh
    go_enter Tryz.func128, Tryz.ntmps128
    go_wp2_with fail
    refine hp.mono ?_
    rintro e w' ⟨rfl, rfl⟩
    clear hp
    go_wp2
    go_ret2
    exact .inr ⟨HN.out, rfl, rfl⟩

set_option maxHeartbeats 1000000 in
/-- strings.CutPrefix of "-". -/
theorem CutPrefix_minus (l : List UInt8) (w : World) (hl : l.length ≤ maxLen) :
    Calls Tryz.prog 111 #[.string ⟨l.toArray⟩, .string ⟨#[45]⟩] w (PrePost l w) := by
  go_enter Tryz.func111, Tryz.ntmps111
  go_wp2_with fail
  refine (CutPrefix_lite l w hl).mono ?_
  rintro e w' (⟨r, hr, rfl, rfl⟩ | ⟨hr, rfl, rfl⟩)
  · have HN : Hid (l = 45 :: r) := hr
    clear hr
    go_wp2
    go_ret2
    exact .inl ⟨r, HN.out, rfl, rfl⟩
  · have HN : Hid (∀ r, l ≠ 45 :: r) := hr
    clear hr
    go_wp2
    go_ret2
    exact .inr ⟨HN.out, rfl, rfl⟩

end Go.Proofs.YtongkalfdgleaaaGreatDoor
