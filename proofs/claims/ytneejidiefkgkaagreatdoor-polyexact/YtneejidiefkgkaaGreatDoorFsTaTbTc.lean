/-
  upoly.Exact of any two.
-/
import Derived.Test.YtneejidiefkgkaaGreatDoorFbFcUz
import Derived.Test.YtneejidiefkgkaaGreatDoorPvPwUoPx
import Derived.Deep.DeepFit
import Derived.Test.YtneejidiefkgkaaGreatDoorRhCqRrRwVa
import Derived.Test.YtneejidiefkgkaaGreatDoorGaGbKpGcGd
namespace Go.Proofs.YtneejidiefkgkaaGreatDoor
open Go.RowKit
set_option linter.unusedVariables false
set_option linter.unusedSimpArgs false

/-- What Exact answers. -/
def UxP (xs ys : List Int) (M : Nat) (w : World) (r : Ending) (w' : World) : Prop :=
  ((∃ (p : Option Addr) (n : Nat) (es : List Ent) (qz : List Int), r = .returned (.tuple #[.slice p n n, .bool true]) ∧ PN w.heap.size w' M p n es qz ∧ n ≤ 13 ∧ 1 ≤ ys.length ∧ ∀ t, gx xs t = gx (mulp qz ys) t) ∨ (r = .returned (.tuple #[.slice none (0 : Nat) (0 : Nat), .bool false]) ∧ (ys.length = 0 ∨ ¬ Dvd xs ys))) ∧ Below w.heap.size w w'
theorem mulp_nil1 (ys : List Int) (t : Nat) : gx (mulp [] ys) t = 0 := by
  rw [gx_mulp]
  have e : ∀ i, ps [] ys i t = 0 := fun i => by
    induction i with
    | zero => rfl
    | succ i ih => rw [ps_none [] ys i t (by simp [gx]), ih]
  exact e _
set_option maxHeartbeats 2000000 in
set_option maxRecDepth 100000 in
theorem exact_empty (w : World) (p q : Option Addr) (m mc : Nat) (hm : m ≤ 1000) :
    Calls Tryz.prog 26 #[.slice p 0 0, .slice q m mc] w fun r w' => r = .returned (.tuple #[.slice none (0 : Nat) (0 : Nat), .bool true]) ∧ w = w' := by
  go_enter Tryz.func26, Tryz.ntmps26
  go_wp2
  go_ret2
  exact ⟨rfl, rfl⟩
set_option maxHeartbeats 2000000 in
set_option maxRecDepth 100000 in
/-- upoly.Exact. -/
theorem uExact_any {w : World} {K L : Nat} {p q : Option Addr} {n nc m mc : Nat} {es fs : List Ent} {zs ys : List Int} (h : PA w K p n nc es zs) (hb : PA w L q m mc fs ys) (hn : n ≤ 30) (hm : m ≤ 13) (hK : K ≤ 9) (hL : L ≤ 4) (hk13 : 1 ≤ tlen ys → tlen zs < tlen ys + 13) :
    Calls Tryz.prog 8 #[.slice p n nc, .slice q m mc] w (UxP (tr zs) (tr ys) 17 w) := by
  have htz := tlen_le zs
  have hty := tlen_le ys
  have hzl := h.zl
  have hyl := hb.zl
  go_enter Tryz.func8, Tryz.ntmps8
  go_wp2_with fail
  refine (read_any K p n nc es zs _ h (by omega) (by omega)).mono ?_
  rintro e w1 ⟨p1, n1, es1, rfl, h1, hb1⟩
  go_wp2_with fail
  refine (read_any L q m mc fs ys _ (hb.below hb1) (by omega) (by omega)).mono ?_
  rintro e w2 ⟨q1, m1, fs1, rfl, k1, hb2⟩
  have hn' := h1.zl
  have hm1 := k1.zl
  rw [length_tr] at hn' hm1
  have hn30 : n1 ≤ 30 := by omega
  have hm13 : m1 ≤ 13 := by omega
  have HX : Hid (PB w.heap.size w2 K p1 n1 es1 (tr zs) ∧ PB w1.heap.size w2 L q1 m1 fs1 (tr ys) ∧ Below w.heap.size w w2 ∧ (1 ≤ m1 → n1 < m1 + 13)) := ⟨h1.below hb2, k1, bnext' hb1 hb2, by rw [← hn', ← hm1]; exact hk13⟩
  clear h hb h1 k1 hb1 hb2 hn' hm1 hk13 htz hty hzl hyl
  have hcs : Hid (m1 = 0 ∨ (1 ≤ m1 ∧ n1 = 0) ∨ (1 ≤ n1 ∧ n1 < m1) ∨ (1 ≤ m1 ∧ m1 ≤ n1)) := by show _ ∨ _; omega
  rcases hcs.out with h0 | ⟨h0, h1⟩ | ⟨h0, h1⟩ | ⟨h0, h1⟩
  · subst h0
    clear hcs
    go_wp2
    go_ret2
    exact ⟨.inr ⟨rfl, .inl HX.out.2.1.zl⟩, HX.out.2.2.1⟩
  · subst h1
    have i1 : ¬ (m1 : Int) = 0 := by omega
    have i1' : ((m1 : Int) == 0) = false := by rw [beq_eq_false_iff_ne]; exact i1
    have he := exact_empty w2 p1 q1 m1 m1 (by omega)
    clear hcs
    go_wp2_with fail
    refine he.mono ?_
    rintro r w3 ⟨rfl, rfl⟩
    clear he
    go_wp2
    go_ret2
    refine ⟨.inl ⟨none, 0, [], [], rfl, pn_nil _ _ _, Nat.zero_le _, by rw [HX.out.2.1.zl]; exact h0, fun t => ?_⟩, HX.out.2.2.1⟩
    rw [mulp_nil1, List.eq_nil_of_length_eq_zero HX.out.1.zl]
    simp [gx]
  · have i1 : ¬ (m1 : Int) = 0 := by omega
    have i1' : ((m1 : Int) == 0) = false := by rw [beq_eq_false_iff_ne]; exact i1
    have i2 : (0 : Int) < (n1 : Int) := by omega
    have i3 : (n1 : Int) < (m1 : Int) := by omega
    clear hcs
    go_wp2
    go_ret2
    refine ⟨.inr ⟨rfl, .inr fun hd => ?_⟩, HX.out.2.2.1⟩
    obtain ⟨pp, hp⟩ := hd
    have hyt := tlen_top (tr ys) (by rw [HX.out.2.1.nrm]; omega)
    rw [HX.out.2.1.nrm] at hyt
    rcases mult_top (m := m1 - 1) (by rw [HX.out.2.1.zl]; omega) hyt hp with h2 | ⟨a, -, h2, -⟩
    · have := HX.out.1.nrm; omega
    · have := HX.out.1.nrm; omega
  · obtain ⟨mm, hmm⟩ : ∃ mm, m1 = mm + 1 := ⟨m1 - 1, by omega⟩
    obtain ⟨k, hk⟩ : ∃ k, n1 = mm + k := ⟨n1 - mm, by omega⟩
    have i1 : ¬ (m1 : Int) = 0 := by omega
    have i1' : ((m1 : Int) == 0) = false := by rw [beq_eq_false_iff_ne]; exact i1
    have i2 : (0 : Int) < (n1 : Int) := by omega
    have i3 : (m1 : Int) ≤ (n1 : Int) := by omega
    have hk1 : 1 ≤ k := by omega
    have hk13 : k ≤ 13 := by have := HX.out.2.2.2 h0; omega
    have hB := HX.out.2.1
    rw [hmm] at hB
    have hpa := HX.out.1.pa (by omega)
    have hqa := HX.out.2.1.pa (by omega)
    have hpb := pb_le hpa (by omega)
    have hbl := bitLen_le n1
    have hdq := dq_of (zs := tr zs) (ys := tr ys) (m := mm) (k := k) (A := 9) (L := 4) (Q := 12) (D := 16) (most := k + pb (tr zs) + Lib.bitLen n1) (by omega) (fun t => Int.lt_of_lt_of_le (hpa.gbd t) (pw_mono hK)) (fun t => Int.lt_of_lt_of_le (hqa.gbd t) (pw_mono hL)) (by omega) (by decide) (by decide)
    rw [← hk] at hdq
    have hxa := exact_any HX.out.1 hB hk hk1 (by omega) (by omega) (by omega) 17 (by decide) hdq
    have hyt : gx (tr ys) mm ≠ 0 := by
      have h9 := tlen_top (tr ys) (by rw [HX.out.2.1.nrm]; omega)
      rw [HX.out.2.1.nrm] at h9
      rwa [show m1 - 1 = mm by omega] at h9
    have hzt : gx (tr zs) (n1 - 1) ≠ 0 := by
      have h9 := tlen_top (tr zs) (by rw [HX.out.1.nrm]; omega)
      rwa [HX.out.1.nrm] at h9
    have HD := (show Hid _ from dvd_gd (zs := tr zs) (ys := tr ys) (m := mm) (k := k) (n := n1) hk1 hk13 (by omega) hk HX.out.1.zl (by rw [HX.out.2.1.zl]; exact hmm) hyt hzt)
    rw [← hmm] at hxa
    clear hcs hB hpa hqa hpb hbl hdq hyt hzt
    clear hk hmm
    go_wp2_with fail
    refine hxa.mono ?_
    rintro r w3 ⟨hr, hb3⟩
    clear hxa
    have HB3 : Hid (Below w.heap.size w w3) := bnext' HX.out.2.2.1 hb3
    rcases hr with ⟨u, us, rfl, r1, r2, r3, r4, hG⟩ | ⟨rfl, hG⟩
    · have HF : Hid (UxP (tr zs) (tr ys) 17 w (.returned (.tuple #[.slice u k k, .bool true])) w3) := by
        obtain ⟨qq, hqq⟩ := HD.out.1 hG
        obtain ⟨-, hq1, hq2⟩ := HD.out.2 qq hqq
        have hs := HX.out.2.2.1.size
        refine ⟨.inl ⟨u, k, us, tr qq, rfl, ⟨r1, by rw [length_tr]; exact hq1, by rw [tlen_tr]; exact hq1, r2, fun a ha => Nat.le_trans hs (r3 a ha), fun i hi => ?_⟩, hk13, by rw [HX.out.2.1.zl]; exact h0, fun t => ?_⟩, HB3.out⟩
        · rw [gx_tr, ← hq2 i hi]
          exact (r4 i hi).mono hs
        · rw [hqq t, gx_mulp, gx_mulp]
          exact ps_same (fun j => (gx_tr qq j).symm) (fun _ => rfl) t _
      clear r1 r2 r3 r4 hG HD hb3 HB3
      go_wp2
      go_ret2
      exact HF.out
    · have HF : Hid (UxP (tr zs) (tr ys) 17 w (.returned (.tuple #[.slice none (0 : Nat) (0 : Nat), .bool false])) w3) := ⟨.inr ⟨rfl, .inr fun hd => by
        obtain ⟨qq, hqq⟩ := hd
        exact hG (HD.out.2 qq hqq).1⟩, HB3.out⟩
      clear hG HD hb3 HB3
      go_wp2
      go_ret2
      exact HF.out
end Go.Proofs.YtneejidiefkgkaaGreatDoor
/-
  ashlarref1.small.
-/
namespace Go.Proofs.YtneejidiefkgkaaGreatDoor
open Go.RowKit
set_option linter.unusedVariables false
set_option linter.unusedSimpArgs false

/-- What small answers. -/
def SmPost (n : Nat) (ds : List Int) (m : Int) (w : World) (e : Ending) (w' : World) : Prop :=
  ∃ Q c, e = .returned (.tuple #[.slice (some ⟨w.heap.size, 0, none⟩) n n, .int .i64 c]) ∧ Q.length = n ∧ U16 Q ∧ 0 ≤ c ∧ c < m ∧ vd ds = vd Q * m + c ∧ Row w' w.heap.size 3 .i64 Q ∧ Below w.heap.size w w'

theorem vd_drop_cons (xs : List Int) (i : Nat) (h : i < xs.length) : vd (xs.drop i) = gx xs i + 65536 * vd (xs.drop (i + 1)) := by
  rw [drop_cons xs i h]; rfl

set_option maxRecDepth 100000 in
set_option maxHeartbeats 2000000 in
/-- ashlarref1.small. -/
theorem rsmall_any (p : Option Addr) (n nc : Nat) (ds : List Int) (m : Int) (w : World) (hl : ds.length = n) (hn : n ≤ 1000000) (hX : Rd w p .i64 ds) (hU : U16 ds) (hm0 : 0 < m) (hm1 : m < 65536) :
    Calls Tryz.prog 113 #[.slice p n nc, .int .i64 m] w (SmPost n ds m w) := by
  have hmk := mk_int n (by omega)
  have HL : Hid (ds.length = n) := hl
  clear hl
  have hrow := Row.new w 3 .i64 (zeros n)
  have hbel : Below w.heap.size w (w.alloc (.cells (ca .i64 (zeros n)) 3)) := (Below.refl _ _).alloc (Nat.le_refl _) _
  have HB : Hid (Row (w.alloc (.cells (ca .i64 (zeros n)) 3)) w.heap.size 3 .i64 (zeros n) ∧ Below w.heap.size w (w.alloc (.cells (ca .i64 (zeros n)) 3))) := ⟨hrow, hbel⟩
  clear hrow hbel
  have hmz : (m == 0) = false := beq_eq_false_iff_ne.2 (by omega)
  go_enter Tryz.func113, Tryz.ntmps113
  go_wp2
  generalize w.alloc (.cells (ca .i64 (zeros n)) 3) = W at *
  go_loopw [7, 8] (fun cv iv wr => ∃ (t : Nat) (c : Int) (Q : List Int), t ≤ n ∧ iv = .int .i64 ((t : Int) - 1) ∧ cv = .int .i64 c ∧ 0 ≤ c ∧ c < m ∧ Hid (Q.length = n ∧ U16 Q ∧ vd (ds.drop t) = vd (Q.drop t) * m + c ∧ Row wr w.heap.size 3 .i64 Q ∧ Below w.heap.size w wr)) (fun _ iv _ => (intOf iv + 1).toNat)
  case atStart => exact ⟨n, 0, zeros n, Nat.le_refl _, by go_num, rfl, by decide, hm0, length_zeros n, u16_zeros n, by rw [List.drop_of_length_le (by have := HL.out; omega), List.drop_of_length_le (by rw [length_zeros]; omega)]; simp [vd], HB.out.1, HB.out.2⟩
  case round =>
    obtain ⟨t, c, Q, ht, rfl, rfl, hc0, hc1, H⟩ := hrel
    by_cases h0 : t = 0
    · subst h0
      go_wp2
      go_ret2
      obtain ⟨h1, h2, h3, h4, h5⟩ := H.out
      rw [List.drop_zero, List.drop_zero] at h3
      exact ⟨Q, c, rfl, h1, h2, hc0, hc1, h3, h4, h5⟩
    · obtain ⟨i, rfl⟩ : ∃ i, t = i + 1 := ⟨t - 1, by omega⟩
      have ei : ((i + 1 : Nat) : Int) - 1 = (i : Int) := by omega
      rw [ei]
      clear ei
      obtain ⟨h1, h2, h3, h4, h5⟩ := H.out
      obtain ⟨b, off, rfl, hcell⟩ := (hX.below h5) (by have := HL.out; omega)
      have g1 := hcell i (by have := HL.out; omega)
      have g2 := h4.cell i (by omega)
      have g3 := h4.frozen i
      obtain ⟨x0, x1⟩ := hU i
      have iI : (i : Int) < (n : Int) := by omega
      have hq0 : 0 ≤ (c * 65536 + gx ds i) / m := Int.ediv_nonneg (by omega) (by omega)
      have hq1 : (c * 65536 + gx ds i) / m < 65536 := Int.ediv_lt_of_lt_mul hm0 (by
        have : (c + 1) * 65536 ≤ m * 65536 := Int.mul_le_mul_of_nonneg_right (by omega) (by decide)
        omega)
      have hr0 := Int.emod_nonneg (c * 65536 + gx ds i) (show m ≠ 0 by omega)
      have hr1 := Int.emod_lt_of_pos (c * 65536 + gx ds i) hm0
      have hrd := Int.emod_add_mul_ediv (c * 65536 + gx ds i) m
      have HR : Hid ((c * 65536 + gx ds i) % m + m * ((c * 65536 + gx ds i) / m) = c * 65536 + gx ds i) := hrd
      have q1 : (c * 65536 + gx ds i).tdiv m = (c * 65536 + gx ds i) / m := Int.tdiv_eq_ediv_of_nonneg (by omega)
      have q2 : (c * 65536 + gx ds i).tmod m = (c * 65536 + gx ds i) % m := Int.tmod_eq_emod_of_nonneg (by omega)
      clear h1 h2 h3 h4 h5 hcell hrd
      go_wp2
      obtain ⟨h1, h2, h3, h4, h5⟩ := H.out
      refine ⟨⟨i, _, Q.set i ((c * 65536 + gx ds i) / m), by omega, rfl, rfl, hr0, hr1, by rw [List.length_set]; exact h1, u16_set h2 _ ⟨hq0, hq1⟩, ?_, h4.set i _, h5.setCell (p := ⟨w.heap.size, i, none⟩) (Nat.le_refl _) _⟩, by simp [intOf]⟩
      rw [vd_drop_cons ds i (by have := HL.out; omega), h3, vd_drop_cons _ i (by rw [List.length_set]; omega), gx_set_eq Q i _ (by omega), List.drop_set_of_lt (by omega), Int.add_mul, Int.mul_assoc]
      have e := HR.out
      have e2 : (c * 65536 + gx ds i) / m * m = m * ((c * 65536 + gx ds i) / m) := Int.mul_comm ..
      rw [e2]
      omega
end Go.Proofs.YtneejidiefkgkaaGreatDoor
/-
  ashlarref1.times.
-/
namespace Go.Proofs.YtneejidiefkgkaaGreatDoor
open Go.RowKit
set_option linter.unusedVariables false
set_option linter.unusedSimpArgs false

/-- What times answers. -/
def TmPost (n : Nat) (V : Int) (w : World) (e : Ending) (w' : World) : Prop :=
  ∃ R, e = .returned (.slice (some ⟨w.heap.size, 0, none⟩) (n + 1) (n + 1)) ∧ R.length = n + 1 ∧ U16 R ∧ vd R = V ∧ Row w' w.heap.size 3 .i64 R ∧ Below w.heap.size w w'
theorem mul_bd17 {v x : Int} (h1 : 0 ≤ v ∧ v < 65536) (h2 : 0 ≤ x ∧ x ≤ 65536) : 0 ≤ v * x ∧ v * x ≤ 4294901760 := by
  refine ⟨Int.mul_nonneg h1.1 h2.1, ?_⟩
  have a1 : v * x ≤ v * 65536 := Int.mul_le_mul_of_nonneg_left (by omega) h1.1
  omega

set_option maxRecDepth 100000 in
set_option maxHeartbeats 2000000 in
/-- ashlarref1.times. -/
theorem rtimes_any (p : Option Addr) (n nc : Nat) (ds : List Int) (m : Int) (w : World) (hl : ds.length = n) (hn : n ≤ 1000000) (hX : Rd w p .i64 ds) (hU : U16 ds) (hm0 : 0 ≤ m) (hm1 : m ≤ 65536) :
    Calls Tryz.prog 114 #[.slice p n nc, .int .i64 m] w (TmPost n (vd ds * m) w) := by
  have hmk := mk_int (n + 1) (by omega)
  have ec : ((n + 1 : Nat) : Int) = (n : Int) + 1 := by omega
  rw [ec] at hmk
  clear ec
  have HL : Hid (ds.length = n) := hl
  clear hl
  have hrow := Row.new w 3 .i64 (zeros (n + 1))
  have hbel : Below w.heap.size w (w.alloc (.cells (ca .i64 (zeros (n + 1))) 3)) := (Below.refl _ _).alloc (Nat.le_refl _) _
  have HB : Hid (Row (w.alloc (.cells (ca .i64 (zeros (n + 1))) 3)) w.heap.size 3 .i64 (zeros (n + 1)) ∧ Below w.heap.size w (w.alloc (.cells (ca .i64 (zeros (n + 1))) 3))) := ⟨hrow, hbel⟩
  clear hrow hbel
  go_enter Tryz.func114, Tryz.ntmps114
  go_wp2
  generalize w.alloc (.cells (ca .i64 (zeros (n + 1))) 3) = W at *
  go_loopw [6, 7] (fun cv iv wr => ∃ (k : Nat) (c : Int) (R : List Int), k ≤ n ∧ iv = .int .i64 k ∧ cv = .int .i64 c ∧ 0 ≤ c ∧ c < 65536 ∧ Hid (R.length = n + 1 ∧ U16 R ∧ (∀ j, k ≤ j → gx R j = 0) ∧ vd (R.take k) + pd k * c = vd (ds.take k) * m ∧ Row wr w.heap.size 3 .i64 R ∧ Below w.heap.size w wr)) (fun _ iv _ => (n - intOf iv).toNat)
  case atStart => exact ⟨0, 0, zeros (n + 1), Nat.zero_le _, by go_num, rfl, by decide, by decide, length_zeros _, u16_zeros _, fun j _ => gx_zeros _ j, by simp [vd], HB.out.1, HB.out.2⟩
  case round =>
    obtain ⟨k, c, R, hk, rfl, rfl, hc0, hc1, H⟩ := hrel
    by_cases hkn : k < n
    · obtain ⟨h1, h2, h3, h4, h5, h6⟩ := H.out
      obtain ⟨b, off, rfl, hcell⟩ := (hX.below h6) (by have := HL.out; omega)
      have g1 := hcell k (by have := HL.out; omega)
      have g2 := h5.cell k (by omega)
      have g3 := h5.frozen k
      have hb := mul_bd17 (hU k) ⟨hm0, hm1⟩
      have hkI : (k : Int) < (n : Int) := by omega
      have hkI2 : (k : Int) < (n : Int) + 1 := by omega
      have q1 : (c + gx ds k * m).tmod 65536 = (c + gx ds k * m) % 65536 := Int.tmod_eq_emod_of_nonneg (by omega)
      have q2 : (c + gx ds k * m).tdiv 65536 = (c + gx ds k * m) / 65536 := Int.tdiv_eq_ediv_of_nonneg (by omega)
      clear h1 h2 h3 h4 h5 h6 hcell
      go_wp2
      obtain ⟨h1, h2, h3, h4, h5, h6⟩ := H.out
      refine ⟨⟨k + 1, _, R.set k ((c + gx ds k * m) % 65536), by omega, by go_num, rfl, by omega, by omega, by rw [List.length_set]; exact h1, u16_set h2 _ (by omega), fun j hj => ?_, ?_, h5.set k _, h6.setCell (p := ⟨w.heap.size, k, none⟩) (Nat.le_refl _) _⟩, by simp [intOf]; omega⟩
      · rw [gx_set_ne R _ _ _ (by omega)]; exact h3 j (by omega)
      · rw [vd_take_succ _ k, vd_take_succ ds k, gx_set_eq R k _ (by omega), List.take_set_of_le (Nat.le_refl _), pd_succ, Int.add_mul, ← h4, Int.mul_assoc (pd k)]
        have e1 := cut16 (pd k) (c + gx ds k * m)
        rw [Int.mul_add] at e1
        omega
    · obtain rfl : k = n := by omega
      obtain ⟨h1, h2, h3, h4, h5, h6⟩ := H.out
      have g2 := h5.cell k (by omega)
      have g3 := h5.frozen k
      have hkI2 : (k : Int) < (k : Int) + 1 := by omega
      clear h1 h2 h3 h4 h5 h6
      go_wp2
      go_ret
      obtain ⟨h1, h2, h3, h4, h5, h6⟩ := H.out
      refine ⟨R.set k c, rfl, by rw [List.length_set]; exact h1, u16_set h2 _ ⟨hc0, hc1⟩, ?_, h5.set k _, h6.setCell (p := ⟨w.heap.size, k, none⟩) (Nat.le_refl _) _⟩
      rw [List.take_of_length_le (l := ds) (by have := HL.out; omega)] at h4
      have e := vd_take_succ (R.set k c) k
      rw [List.take_of_length_le (by rw [List.length_set]; omega), List.take_set_of_le (Nat.le_refl _), gx_set_eq R k c (by omega)] at e
      rw [e, h4]
end Go.Proofs.YtneejidiefkgkaaGreatDoor
/-
  ashlarref1.divide: plain facts.
-/
namespace Go.Proofs.YtneejidiefkgkaaGreatDoor
open Go.RowKit
set_option linter.unusedVariables false
set_option linter.unusedSimpArgs false

theorem vd_drop_next (xs : List Int) (i : Nat) : vd (xs.drop i) = gx xs i + 65536 * vd (xs.drop (i + 1)) := by
  by_cases h : i < xs.length
  · exact vd_drop_cons xs i h
  · rw [List.drop_of_length_le (by omega), List.drop_of_length_le (by omega), gx_past xs i (by omega) i (Nat.le_refl _)]; rfl
theorem vd_cut (xs : List Int) (i : Nat) : vd xs = vd (xs.take i) + pd i * vd (xs.drop i) := by
  by_cases h : i ≤ xs.length
  · exact vd_drop_take xs i h
  · rw [List.take_of_length_le (by omega), List.drop_of_length_le (by omega)]; simp [vd]
/-- A guess by the two highest digits is not too small. -/
theorem guess_ge {Uk v top low vt vl P Q : Int} (hP : 0 < P) (h1 : Uk = top * P + low) (h3 : low < P) (h4 : v = vt * P + vl) (h5 : 0 ≤ vl) (h6 : 0 < vt) (hQ : 0 ≤ Q) (h : Q * v ≤ Uk) : Q ≤ top / vt := by
  apply (Int.le_ediv_iff_mul_le h6).2
  have e : Q * v = (Q * vt) * P + Q * vl := by rw [h4, Int.mul_add, Int.mul_assoc]
  have h7 := Int.mul_nonneg hQ h5
  have h8 : (Q * vt) * P < (top + 1) * P := by rw [Int.add_mul, Int.one_mul]; omega
  have h9 := Int.lt_of_mul_lt_mul_right h8 (Int.le_of_lt hP)
  omega
/-- What the two highest digits are. -/
theorem top_two (us : List Int) (k n : Nat) (hn : 1 ≤ n) (hz : vd (us.drop (k + n + 1)) = 0) : vd (us.drop k) = (gx us (k + n) * 65536 + gx us (k + n - 1)) * pd (n - 1) + vd ((us.drop k).take (n - 1)) := by
  rw [vd_cut (us.drop k) (n - 1), List.drop_drop, show k + (n - 1) = k + n - 1 by omega, vd_drop_next us (k + n - 1), show k + n - 1 + 1 = k + n by omega, vd_drop_next us (k + n), hz, Int.mul_comm (pd (n - 1))]
  have : gx us (k + n - 1) + 65536 * (gx us (k + n) + 65536 * 0) = gx us (k + n) * 65536 + gx us (k + n - 1) := by omega
  rw [this]
  omega
theorem drop_zero_of {us : List Int} (h : U16 us) {k n : Nat} {v : Int} (h1 : vd (us.drop k) < v) (h2 : v ≤ pd n) : vd (us.drop (k + n)) = 0 := by
  have e := vd_cut (us.drop k) n
  rw [List.drop_drop] at e
  have h3 := vd_nonneg (u16_take (u16_drop h k) n)
  have h4 := vd_nonneg (u16_drop h (k + n))
  rcases (show vd (us.drop (k + n)) = 0 ∨ 1 ≤ vd (us.drop (k + n)) by omega) with h5 | h5
  · exact h5
  · have : pd n * 1 ≤ pd n * vd (us.drop (k + n)) := Int.mul_le_mul_of_nonneg_left h5 (Int.le_of_lt (pd_pos n))
    omega
theorem quo_le {x y Q g : Int} (hy : 0 < y) (hQ : Q = x / y) (hg : g * y ≤ x) : g ≤ Q := by
  rw [hQ]; exact (Int.le_ediv_iff_mul_le hy).2 hg
theorem quo_mul {x y : Int} (hy : 0 < y) : x / y * y ≤ x ∧ x < (x / y + 1) * y := by
  have h1 := Int.emod_add_mul_ediv x y
  have h2 := Int.emod_nonneg x (show y ≠ 0 by omega)
  have h3 := Int.emod_lt_of_pos x hy
  rw [Int.mul_comm y] at h1
  rw [Int.add_mul, Int.one_mul]
  constructor <;> omega
/-- One digit of a difference. -/
theorem sub_step (P u c d b x c' b' : Int) (hx : x = u - d - b + 65536 * b') (hc : c = d + 65536 * c') : P * x + P * (c + b) = P * u + 65536 * P * (c' + b') := by
  subst hx
  subst hc
  grind
end Go.Proofs.YtneejidiefkgkaaGreatDoor
