/-
  limbs.Gcd of numbers of fewer than 80 limbs.
-/
import Derived.Test.YtinkkfkepjgahaaDoorGf
import Derived.Test.YtinkkfkepjgahaaDoorRhCyCz
namespace Go.Proofs.YtinkkfkepjgahaaDoor
open Go.RowKit
set_option linter.unusedVariables false
set_option linter.unusedSimpArgs false

theorem gcd_ival (s t : Bool) (xs ys : List Int) : Int.gcd (ival s xs) (ival t ys) = Int.gcd (val xs) (val ys) := by
  cases s <;> cases t <;> simp [ival, Int.gcd_neg, Int.neg_gcd]

set_option maxRecDepth 100000 in
set_option maxHeartbeats 2000000 in
/-- limbs.Gcd. -/
theorem Gcd_any (s t : Bool) (p q : Option Addr) (n nc m mc : Nat) (xs ys : List Int) (w : World) (hA : AI w p n nc xs) (hB : AI w q m mc ys) (hn : n < 80) (hm : m < 80) :
    Calls Tryd.prog 7 #[.agg #[.bool s, .slice p n nc], .agg #[.bool t, .slice q m mc]] w fun e w' => ∃ s' p' n' zs, e = .returned (.agg #[.bool s', .slice p' n' n']) ∧ NI w.heap.size w' s' p' n' zs (Int.gcd (ival s xs) (ival t ys)) ∧ n' ≤ 80 ∧ Below w.heap.size w w' := by
  have tx := tlen_le xs
  have ty := tlen_le ys
  have lx := hA.len
  have ly := hB.len
  rw [gcd_ival]
  obtain ⟨g, hg⟩ : ∃ g, g = Int.gcd (val xs) (val ys) := ⟨_, rfl⟩
  have HG : Hid (g = Int.gcd (val xs) (val ys)) := hg
  rw [← hg]
  clear hg
  go_enter Tryd.func7, Tryd.ntmps7
  go_wp2
  have hX := boxes3' w (.bool s) (.slice p n nc) (.bool t) (.slice q m mc) (.bool false) (.slice none 0 0) 24 24 24
  generalize ((w.alloc (Obj.cells #[Value.bool s, Value.slice p n nc] 24)).alloc (Obj.cells #[Value.bool t, Value.slice q m mc] 24)).alloc (Obj.cells #[Value.bool false, Value.slice none 0 0] 24) = W at *
  have hA' := hA.below hX.below
  have hB' := hB.below hX.below
  have k1 := hX.ca1
  have k3 := hX.cb1
  go_region_held3 (fun w' => w'.cell? ⟨w.heap.size, 1, none⟩ = some (.slice p n nc) ∧ w'.cell? ⟨w.heap.size + 1, 1, none⟩ = some (.slice q m mc)) (first | (simp [go_sem, *]; done) | exact keepc2 (by assumption) (by assumption))
    (first
      | (go_at_call_of 23 (Value.slice p n nc); refine (trim_any p n nc xs _ hA.len hA.cap hA.bnd ?_).mono ?_; exact hA'.rd.drew; rintro e w' ⟨rfl, rfl⟩)
      | (go_at_call_of 23 (Value.slice q m mc); refine (trim_any q m mc ys _ hB.len hB.cap hB.bnd ?_).mono ?_; exact hB'.rd.drew; rintro e w' ⟨rfl, rfl⟩)
      | (go_at_call 22; refine (divisor_any p q (tlen xs) nc (tlen ys) mc (tr xs) (tr ys) _ hA'.tr.drew hB'.tr.drew (by omega) (by omega) (tlen_tr xs) (tlen_tr ys)).mono ?_; rintro e w1 ⟨qz, nz, ncz, zs, rfl, z1, z2, z3, z4, z5, z6, z7, z8, hb1⟩)
      | (go_at_call 21; refine (number_any false qz nz ncz zs _ z3 z4 z5 ?_).mono ?_; exact z1; rintro e w2 ⟨rfl, hb2⟩; obtain ⟨c0, c1, f0, f1⟩ := resbox ((undrew hb1).trans (hb2.mono (undrew hb1).size)) hX.cr0 hX.cr1 hX.fr0 hX.fr1))
  go_wp2
  have hsz := hX.size
  have htl := tlen_le zs
  have hv : ival false zs = g := by
    rw [ival, if_neg (by decide), z7, HG.out, val_tr, val_tr]
  have hbb := undrew hb1
  have hs1 := hbb.size
  have hN := ((ni_number (B := W.heap.size) false z1 z2 z8).below hb2)
  rw [hv] at hN
  refine bodyPost_ret (v := .agg #[.bool (nsg false zs), .slice (nad qz zs) (tlen zs) (tlen zs)]) (by simp [results, Tryd.results7, go_sem, c0, c1]) rfl ⟨_, _, _, tr zs, rfl, ?_, by omega, ?_⟩
  · exact ((hN.set (by simp; omega) _).set (by simp; omega) _).mono (by omega)
  · exact ((hX.below.trans (bnext' hbb hb2 |>.mono (by omega))).setCell (by simp; omega) _).setCell (by simp; omega) _
end Go.Proofs.YtinkkfkepjgahaaDoor
/-
  ashlarref1.small.
-/
namespace Go.Proofs.YtinkkfkepjgahaaDoor
open Go.RowKit
set_option linter.unusedVariables false
set_option linter.unusedSimpArgs false

/-- What small answers. -/
def SmPost (n : Nat) (ds : List Int) (m : Int) (w : World) (e : Ending) (w' : World) : Prop :=
  ∃ Q c, e = .returned (.tuple #[.slice (some ⟨w.heap.size, 0, none⟩) n n, .int .i64 c]) ∧ Q.length = n ∧ U16 Q ∧ 0 ≤ c ∧ c < m ∧ vd ds = vd Q * m + c ∧ Row w' w.heap.size 3 .i64 Q ∧ Below w.heap.size w w'

theorem vd_drop_cons (xs : List Int) (i : Nat) (h : i < xs.length) : vd (xs.drop i) = gx xs i + 65536 * vd (xs.drop (i + 1)) := by
  rw [drop_cons xs i h]; rfl

set_option maxRecDepth 100000 in
set_option maxHeartbeats 2000000 in
/-- ashlarref1.small. -/
theorem rsmall_any (p : Option Addr) (n nc : Nat) (ds : List Int) (m : Int) (w : World) (hl : ds.length = n) (hn : n ≤ 1000000) (hX : Rd w p .i64 ds) (hU : U16 ds) (hm0 : 0 < m) (hm1 : m < 65536) :
    Calls Tryd.prog 66 #[.slice p n nc, .int .i64 m] w (SmPost n ds m w) := by
  have hmk := mk_int n (by omega)
  have HL : Hid (ds.length = n) := hl
  clear hl
  have hrow := Row.new w 3 .i64 (zeros n)
  have hbel : Below w.heap.size w (w.alloc (.cells (ca .i64 (zeros n)) 3)) := (Below.refl _ _).alloc (Nat.le_refl _) _
  have HB : Hid (Row (w.alloc (.cells (ca .i64 (zeros n)) 3)) w.heap.size 3 .i64 (zeros n) ∧ Below w.heap.size w (w.alloc (.cells (ca .i64 (zeros n)) 3))) := ⟨hrow, hbel⟩
  clear hrow hbel
  have hmz : (m == 0) = false := beq_eq_false_iff_ne.2 (by omega)
  go_enter Tryd.func66, Tryd.ntmps66
  go_wp2
  generalize w.alloc (.cells (ca .i64 (zeros n)) 3) = W at *
  go_loopw [7, 8] (fun cv iv wr => ∃ (t : Nat) (c : Int) (Q : List Int), t ≤ n ∧ iv = .int .i64 ((t : Int) - 1) ∧ cv = .int .i64 c ∧ 0 ≤ c ∧ c < m ∧ Hid (Q.length = n ∧ U16 Q ∧ vd (ds.drop t) = vd (Q.drop t) * m + c ∧ Row wr w.heap.size 3 .i64 Q ∧ Below w.heap.size w wr)) (fun _ iv _ => (intOf iv + 1).toNat)
  case atStart => exact ⟨n, 0, zeros n, Nat.le_refl _, by go_num, rfl, by decide, hm0, length_zeros n, u16_zeros n, by rw [List.drop_of_length_le (by have := HL.out; omega), List.drop_of_length_le (by rw [length_zeros]; omega)]; simp [vd], HB.out.1, HB.out.2⟩
  case round =>
    obtain ⟨t, c, Q, ht, rfl, rfl, hc0, hc1, H⟩ := hrel
    by_cases h0 : t = 0
    · subst h0
      go_wp2
      go_ret2
      obtain ⟨h1, h2, h3, h4, h5⟩ := H.out
      rw [List.drop_zero, List.drop_zero] at h3
      exact ⟨Q, c, rfl, h1, h2, hc0, hc1, h3, h4, h5⟩
    · obtain ⟨i, rfl⟩ : ∃ i, t = i + 1 := ⟨t - 1, by omega⟩
      have ei : ((i + 1 : Nat) : Int) - 1 = (i : Int) := by omega
      rw [ei]
      clear ei
      obtain ⟨h1, h2, h3, h4, h5⟩ := H.out
      obtain ⟨b, off, rfl, hcell⟩ := (hX.below h5) (by have := HL.out; omega)
      have g1 := hcell i (by have := HL.out; omega)
      have g2 := h4.cell i (by omega)
      have g3 := h4.frozen i
      obtain ⟨x0, x1⟩ := hU i
      have iI : (i : Int) < (n : Int) := by omega
      have hq0 : 0 ≤ (c * 65536 + gx ds i) / m := Int.ediv_nonneg (by omega) (by omega)
      have hq1 : (c * 65536 + gx ds i) / m < 65536 := Int.ediv_lt_of_lt_mul hm0 (by
        have : (c + 1) * 65536 ≤ m * 65536 := Int.mul_le_mul_of_nonneg_right (by omega) (by decide)
        omega)
      have hr0 := Int.emod_nonneg (c * 65536 + gx ds i) (show m ≠ 0 by omega)
      have hr1 := Int.emod_lt_of_pos (c * 65536 + gx ds i) hm0
      have hrd := Int.emod_add_mul_ediv (c * 65536 + gx ds i) m
      have HR : Hid ((c * 65536 + gx ds i) % m + m * ((c * 65536 + gx ds i) / m) = c * 65536 + gx ds i) := hrd
      have q1 : (c * 65536 + gx ds i).tdiv m = (c * 65536 + gx ds i) / m := Int.tdiv_eq_ediv_of_nonneg (by omega)
      have q2 : (c * 65536 + gx ds i).tmod m = (c * 65536 + gx ds i) % m := Int.tmod_eq_emod_of_nonneg (by omega)
      clear h1 h2 h3 h4 h5 hcell hrd
      go_wp2
      obtain ⟨h1, h2, h3, h4, h5⟩ := H.out
      refine ⟨⟨i, _, Q.set i ((c * 65536 + gx ds i) / m), by omega, rfl, rfl, hr0, hr1, by rw [List.length_set]; exact h1, u16_set h2 _ ⟨hq0, hq1⟩, ?_, h4.set i _, h5.setCell (p := ⟨w.heap.size, i, none⟩) (Nat.le_refl _) _⟩, by simp [intOf]⟩
      rw [vd_drop_cons ds i (by have := HL.out; omega), h3, vd_drop_cons _ i (by rw [List.length_set]; omega), gx_set_eq Q i _ (by omega), List.drop_set_of_lt (by omega), Int.add_mul, Int.mul_assoc]
      have e := HR.out
      have e2 : (c * 65536 + gx ds i) / m * m = m * ((c * 65536 + gx ds i) / m) := Int.mul_comm ..
      rw [e2]
      omega
end Go.Proofs.YtinkkfkepjgahaaDoor
