/-
  limbs.Gcd of numbers of fewer than 150 limbs.
-/
import Derived.Test.YtcdfckjlmifjiaaGreatGf
import Derived.Test.YtcdfckjlmifjiaaGreatWdWeNi
import Derived.Test.YtcdfckjlmifjiaaGreatCxRbCyRvCzTeZa
import Derived.Test.YtcdfckjlmifjiaaGreatWkWlBxRaWhWmBe
import Derived.Test.YtcdfckjlmifjiaaGreatRwNjUbVaVg
namespace Go.Proofs.YtcdfckjlmifjiaaGreat
open Go.RowKit
set_option linter.unusedVariables false
set_option linter.unusedSimpArgs false

theorem gcd_ival (s t : Bool) (xs ys : List Int) : Int.gcd (ival s xs) (ival t ys) = Int.gcd (val xs) (val ys) := by
  cases s <;> cases t <;> simp [ival, Int.gcd_neg, Int.neg_gcd]

set_option maxRecDepth 100000 in
set_option maxHeartbeats 2000000 in
/-- limbs.Gcd. -/
theorem Gcd_gen (s t : Bool) (p q : Option Addr) (n nc m mc : Nat) (xs ys : List Int) (w : World) (hA : AI w p n nc xs) (hB : AI w q m mc ys) (K : Nat) (hK2 : 2 ≤ K) (hK : K ≤ 150) (hn : n < K) (hm : m < K) :
    Calls Tryz.prog 100 #[.agg #[.bool s, .slice p n nc], .agg #[.bool t, .slice q m mc]] w fun e w' => ∃ s' p' n' zs, e = .returned (.agg #[.bool s', .slice p' n' n']) ∧ NI w.heap.size w' s' p' n' zs (Int.gcd (ival s xs) (ival t ys)) ∧ n' ≤ K ∧ Below w.heap.size w w' := by
  have tx := tlen_le xs
  have ty := tlen_le ys
  have lx := hA.len
  have ly := hB.len
  rw [gcd_ival]
  obtain ⟨g, hg⟩ : ∃ g, g = Int.gcd (val xs) (val ys) := ⟨_, rfl⟩
  have HG : Hid (g = Int.gcd (val xs) (val ys)) := hg
  rw [← hg]
  clear hg
  go_enter Tryz.func100, Tryz.ntmps100
  go_wp2
  have hX := boxes3' w (.bool s) (.slice p n nc) (.bool t) (.slice q m mc) (.bool false) (.slice none 0 0) 50 50 50
  generalize ((w.alloc (Obj.cells #[Value.bool s, Value.slice p n nc] 50)).alloc (Obj.cells #[Value.bool t, Value.slice q m mc] 50)).alloc (Obj.cells #[Value.bool false, Value.slice none 0 0] 50) = W at *
  have hA' := hA.below hX.below
  have hB' := hB.below hX.below
  have k1 := hX.ca1
  have k3 := hX.cb1
  go_region_held3 (fun w' => w'.cell? ⟨w.heap.size, 1, none⟩ = some (.slice p n nc) ∧ w'.cell? ⟨w.heap.size + 1, 1, none⟩ = some (.slice q m mc)) (first | (simp [go_sem, *]; done) | exact keepc2 (by assumption) (by assumption))
    (first
      | (go_at_call_of 68 (Value.slice p n nc); refine (trim_any p n nc xs _ hA.len hA.cap hA.bnd ?_).mono ?_; exact hA'.rd.drew; rintro e w' ⟨rfl, rfl⟩)
      | (go_at_call_of 68 (Value.slice q m mc); refine (trim_any q m mc ys _ hB.len hB.cap hB.bnd ?_).mono ?_; exact hB'.rd.drew; rintro e w' ⟨rfl, rfl⟩)
      | (go_at_call 105; refine (divisor_any p q (tlen xs) nc (tlen ys) mc (tr xs) (tr ys) _ hA'.tr.drew hB'.tr.drew K hK2 hK (by omega) (by omega) (tlen_tr xs) (tlen_tr ys)).mono ?_; rintro e w1 ⟨qz, nz, ncz, zs, rfl, z1, z2, z3, z4, z5, z6, z7, z8, z9, hb1⟩)
      | (go_at_call 103; refine (number_any false qz nz ncz zs _ z3 z4 z5 ?_).mono ?_; exact z1; rintro e w2 ⟨rfl, hb2⟩; obtain ⟨c0, c1, f0, f1⟩ := resbox ((undrew hb1).trans (hb2.mono (undrew hb1).size)) hX.cr0 hX.cr1 hX.fr0 hX.fr1))
  go_wp2
  have hsz := hX.size
  have htl := tlen_le zs
  have hv : ival false zs = g := by
    rw [ival, if_neg (by decide), z7, HG.out, val_tr, val_tr]
  have hbb := undrew hb1
  have hs1 := hbb.size
  have hN := ((ni_number (B := W.heap.size) false z1 z2 z8 z9).below hb2)
  rw [hv] at hN
  refine bodyPost_ret (v := .agg #[.bool (nsg false zs), .slice (nad qz zs) (tlen zs) (tlen zs)]) (by simp [results, Tryz.results100, go_sem, c0, c1]) rfl ⟨_, _, _, tr zs, rfl, ?_, by omega, ?_⟩
  · exact ((hN.set (by simp; omega) _).set (by simp; omega) _).mono (by omega)
  · exact ((hX.below.trans (bnext' hbb hb2 |>.mono (by omega))).setCell (by simp; omega) _).setCell (by simp; omega) _
end Go.Proofs.YtcdfckjlmifjiaaGreat
namespace Go.Proofs.YtcdfckjlmifjiaaGreat
open Go.RowKit
set_option linter.unusedVariables false
set_option linter.unusedSimpArgs false

set_option maxHeartbeats 1000000 in
/-- limbs.Neg. -/
theorem Neg_any (s : Bool) (p : Option Addr) (n nc : Nat) (xs : List Int) (w : World) (hA : AI w p n nc xs) :
    Calls Tryz.prog 99 #[.agg #[.bool s, .slice p n nc]] w fun e w' => ∃ s' p' n' ys, e = .returned (.agg #[.bool s', .slice p' n' n']) ∧ NI w.heap.size w' s' p' n' ys (ival (!s) xs) ∧ n' ≤ n ∧ Below w.heap.size w w' := by
  have ht := tlen_le xs
  have hl := hA.len
  have hs := hA.sml
  go_enter Tryz.func99, Tryz.ntmps99
  go_wp2
  go_region_held3 (fun w' => w'.cell? ⟨w.heap.size, 0, none⟩ = some (.bool s) ∧ w'.cell? ⟨w.heap.size, 1, none⟩ = some (.slice p n nc)) (first | (simp [go_sem, *, World.cell?_alloc_past]; done) | exact keepc2 (by assumption) (by assumption))
    (first
      | (go_at_call 68; refine (trim_any p n nc xs _ hA.len hA.cap hA.bnd ?_).mono ?_; exact ((hA.rd.alloc _).alloc _).drew; rintro e w' ⟨rfl, rfl⟩)
      | (go_at_call 104; refine (clone_any p (tlen xs) nc (tr xs) _ (length_tr xs) (by omega) ?_).mono ?_; exact ((hA.rd.tr.alloc _).alloc _).drew; rintro e w' ⟨rfl, rfl⟩)
      | (go_at_call 103; refine (number_any (!s) (some ⟨w.heap.size + 1 + 1, 0, none⟩) (tlen xs) (tlen xs) (tr xs) _ (length_tr xs) (Nat.le_refl _) (by unfold maxLen; omega) ?_).mono ?_; exact (Row.new2 w _ _ _ _ _).drew.rd_all; rintro e w1 ⟨rfl, hb⟩; obtain ⟨c0, c1, f0, f1⟩ := resbox (r := w.heap.size + 1) (u := .bool false) (v := .slice none 0 0) hb (by simp [go_sem, World.cell?_alloc_past]) (by simp [go_sem, World.cell?_alloc_past]) (by simp [go_sem]) (by simp [go_sem])))
  go_wp2
  refine bodyPost_ret (v := .agg #[.bool (nsg (!s) (tr xs)), .slice (nad (some ⟨w.heap.size + 1 + 1, 0, none⟩) (tr xs)) (tlen (tr xs)) (tlen (tr xs))]) (by simp [results, Tryz.results99, go_sem, c0, c1]) rfl ⟨_, _, _, tr (tr xs), rfl, ?_, ?_, ?_⟩
  · rw [← ival_tr (!s) xs]
    exact ((((ni_number (B := w.heap.size + 1 + 1) (!s) (Row.new2 w _ _ _ _ _).drew.rd_all (u32_tr hA.u) (from_new (Nat.le_refl _)) ((Row.new2 w _ _ _ _ _).drew.fz 0)).below hb).set (by simp) _).set (by simp) _).mono (by omega)
  · rw [tlen_tr]; omega
  · exact ((((((Below.refl _ _).alloc (Nat.le_refl _) _).alloc (by simp) _).alloc (by simp; omega) _).drew.trans (hb.mono (by simp; omega))).setCell (by simp) _).setCell (by simp) _
end Go.Proofs.YtcdfckjlmifjiaaGreat
/-
  Rationals as the program hands them about; rat.zero, upright.
-/
namespace Go.Proofs.YtcdfckjlmifjiaaGreat
open Go.RowKit
set_option linter.unusedVariables false
set_option linter.unusedSimpArgs false

/-- A variable of four cells. -/
structure Bq (w : World) (r : Nat) (a0 a1 a2 a3 : Value) : Prop where
  c0 : w.cell? ⟨r, 0, none⟩ = some a0
  c1 : w.cell? ⟨r, 1, none⟩ = some a1
  c2 : w.cell? ⟨r, 2, none⟩ = some a2
  c3 : w.cell? ⟨r, 3, none⟩ = some a3
  f0 : w.frozen? ⟨r, 0, none⟩ = false
  f1 : w.frozen? ⟨r, 1, none⟩ = false
  f2 : w.frozen? ⟨r, 2, none⟩ = false
  f3 : w.frozen? ⟨r, 3, none⟩ = false
theorem Bq.lt {w : World} {r : Nat} {a0 a1 a2 a3 : Value} (h : Bq w r a0 a1 a2 a3) : r < w.heap.size := block_lt_of_cell h.c0
theorem Bq.later {w w' : World} {r : Nat} {a0 a1 a2 a3 : Value} (h : Bq w r a0 a1 a2 a3) (hb : Below w.heap.size w w') : Bq w' r a0 a1 a2 a3 := by
  have hr := h.lt
  exact ⟨cell_later hb h.c0, cell_later hb h.c1, cell_later hb h.c2, cell_later hb h.c3, by rw [hb.frozen (p := ⟨r, 0, none⟩) hr]; exact h.f0, by rw [hb.frozen (p := ⟨r, 1, none⟩) hr]; exact h.f1, by rw [hb.frozen (p := ⟨r, 2, none⟩) hr]; exact h.f2, by rw [hb.frozen (p := ⟨r, 3, none⟩) hr]; exact h.f3⟩
theorem Bq.alloc {w : World} {r : Nat} {a0 a1 a2 a3 : Value} (h : Bq w r a0 a1 a2 a3) (o : Obj) : Bq (w.alloc o) r a0 a1 a2 a3 := h.later ((Below.refl _ _).alloc (Nat.le_refl _) o)
theorem Bq.new {w : World} {r : Nat} (a0 a1 a2 a3 : Value) (t : Nat) (hr : r = w.heap.size) : Bq (w.alloc (.cells #[a0, a1, a2, a3] t)) r a0 a1 a2 a3 := by
  subst hr
  refine ⟨?_, ?_, ?_, ?_, ?_, ?_, ?_, ?_⟩ <;> simp [go_sem, World.cell?_alloc_past, World.frozen?_alloc_past]
theorem bset4 {B g : Nat} {a b : World} (h : Below B a b) (hg : B ≤ g) (u v x y : Value) : Below B a ((((b.setCell ⟨g, 0, none⟩ u).setCell ⟨g, 1, none⟩ v).setCell ⟨g, 2, none⟩ x).setCell ⟨g, 3, none⟩ y) :=
  (((h.setCell (p := ⟨g, 0, none⟩) hg u).setCell (p := ⟨g, 1, none⟩) hg v).setCell (p := ⟨g, 2, none⟩) hg x).setCell (p := ⟨g, 3, none⟩) hg y
theorem NI.set4 {B : Nat} {w : World} {s : Bool} {p : Option Addr} {n : Nat} {xs : List Int} {z : Int} (h : NI B w s p n xs z) {g : Nat} (hg : g < B) (u v x y : Value) : NI B ((((w.setCell ⟨g, 0, none⟩ u).setCell ⟨g, 1, none⟩ v).setCell ⟨g, 2, none⟩ x).setCell ⟨g, 3, none⟩ y) s p n xs z :=
  (((h.set (a := ⟨g, 0, none⟩) hg u).set (a := ⟨g, 1, none⟩) hg v).set (a := ⟨g, 2, none⟩) hg x).set (a := ⟨g, 3, none⟩) hg y
theorem AI.setOff {w : World} {p : Option Addr} {n nc : Nat} {xs : List Int} (h : AI w p n nc xs) {a : Addr} (hne : 0 < n → Off a.block p) (v : Value) : AI (w.setCell a v) p n nc xs :=
  ⟨h.len, h.cap, h.bnd, h.sml, fun hx => h.rd.set_other a v (hne (by rw [← h.len]; exact hx)) hx, h.u⟩
theorem AI.set4 {w : World} {p : Option Addr} {n nc : Nat} {xs : List Int} (h : AI w p n nc xs) {g : Nat} (hg : 0 < n → Off g p) (u v x y : Value) : AI ((((w.setCell ⟨g, 0, none⟩ u).setCell ⟨g, 1, none⟩ v).setCell ⟨g, 2, none⟩ x).setCell ⟨g, 3, none⟩ y) p n nc xs :=
  (((h.setOff (a := ⟨g, 0, none⟩) hg u).setOff (a := ⟨g, 1, none⟩) hg v).setOff (a := ⟨g, 2, none⟩) hg x).setOff (a := ⟨g, 3, none⟩) hg y
theorem AI.nil (w : World) : AI w none 0 0 [] := ⟨rfl, Nat.le_refl _, by unfold maxLen; omega, by omega, Rd.nil, fun j => by simp [gx]⟩
theorem divInt_neg2 (a b : Int) : Rat.divInt (-a) (-b) = Rat.divInt a b := by
  have := Rat.divInt_mul_right (n := a) (d := b) (a := -1) (by decide)
  rwa [Int.mul_neg_one, Int.mul_neg_one] at this
set_option maxRecDepth 100000 in
set_option maxHeartbeats 2000000 in
/-- rat.zero. -/
theorem zero_any (w : World) : Calls Tryz.prog 98 #[] w fun e w' => ∃ t q m ys, e = .returned (.agg #[.bool false, .slice none 0 0, .bool t, .slice q m m]) ∧ NI w.heap.size w' t q m ys 1 ∧ m ≤ 1 ∧ Below w.heap.size w w' := by
  go_enter Tryz.func98, Tryz.ntmps98
  go_wp2_with fail
  have hR : Bq (w.alloc (.cells #[.bool false, .slice none 0 0, .bool false, .slice none 0 0] 56)) w.heap.size (.bool false) (.slice none 0 0) (.bool false) (.slice none 0 0) := Bq.new _ _ _ _ _ rfl
  have hW : Below w.heap.size w (w.alloc (.cells #[.bool false, .slice none 0 0, .bool false, .slice none 0 0] 56)) := (Below.refl _ _).alloc (Nat.le_refl _) _
  generalize w.alloc (.cells #[.bool false, .slice none 0 0, .bool false, .slice none 0 0] 56) = W at *
  refine (Of_any 1 _ (by decide) (by decide)).mono ?_
  rintro e w1 ⟨t, q, m, ys, rfl, hN, hn, hb⟩
  have hR1 := hR.later hb
  obtain ⟨r0, r1, r2, r3, f0, f1, f2, f3⟩ := hR1
  have hs := hR.lt
  go_wp2
  refine bodyPost_ret (v := .agg #[.bool false, .slice none 0 0, .bool t, .slice q m m]) (by simp [results, Tryz.results98, go_sem, r0, r1, r2, r3]) rfl ⟨t, q, m, ys, rfl, ?_, hN.le (by decide), ?_⟩
  · exact (hN.set4 hs _ _ _ _).mono hW.size
  · exact bset4 (bnext' hW hb) (Nat.le_refl _) _ _ _ _
/-- What upright answers. -/
def UpPost (K : Nat) (Q : Rat) (n0 m0 : Nat) (p0 q0 : Option Addr) (w : World) (e : Ending) (w' : World) : Prop :=
  ∃ s p n nc xs t q m mc ys, e = .returned (.agg #[.bool s, .slice p n nc, .bool t, .slice q m mc]) ∧ AI w' p n nc xs ∧ AI w' q m mc ys ∧ 0 < ival t ys ∧ Rat.divInt (ival s xs) (ival t ys) = Q ∧ n ≤ K ∧ m ≤ K ∧
    (∀ g, g < w.heap.size → (0 < n0 → Off g p0) → (0 < m0 → Off g q0) → (0 < n → Off g p) ∧ (0 < m → Off g q)) ∧ Below w.heap.size w w'
set_option maxRecDepth 100000 in
set_option maxHeartbeats 2000000 in
theorem upright_any (s t : Bool) (p q : Option Addr) (n nc m mc : Nat) (xs ys : List Int) (w : World) (hA : AI w p n nc xs) (hB : AI w q m mc ys) (K : Nat) (hK : 1 ≤ K) (hn : n ≤ K) (hm : m ≤ K) :
    Calls Tryz.prog 89 #[.agg #[.bool s, .slice p n nc, .bool t, .slice q m mc]] w (UpPost K (Rat.divInt (ival s xs) (ival t ys)) n m p q w) := by
  have hc : Hid (0 < ival t ys ∨ ival t ys = 0 ∨ ival t ys < 0) := by have : 0 < ival t ys ∨ ival t ys = 0 ∨ ival t ys < 0 := by omega
                                                                      exact this
  go_enter Tryz.func89, Tryz.ntmps89
  go_wp2_with fail
  have hA0 : Bq ((w.alloc (.cells #[.bool s, .slice p n nc, .bool t, .slice q m mc] 56)).alloc (.cells #[.bool false, .slice none 0 0, .bool false, .slice none 0 0] 56)) w.heap.size (.bool s) (.slice p n nc) (.bool t) (.slice q m mc) := (Bq.new _ _ _ _ _ rfl).alloc _
  have hR : Bq ((w.alloc (.cells #[.bool s, .slice p n nc, .bool t, .slice q m mc] 56)).alloc (.cells #[.bool false, .slice none 0 0, .bool false, .slice none 0 0] 56)) (w.heap.size + 1) (.bool false) (.slice none 0 0) (.bool false) (.slice none 0 0) := Bq.new _ _ _ _ _ (by simp)
  have hW : Below w.heap.size w ((w.alloc (.cells #[.bool s, .slice p n nc, .bool t, .slice q m mc] 56)).alloc (.cells #[.bool false, .slice none 0 0, .bool false, .slice none 0 0] 56)) := ((Below.refl _ _).alloc (Nat.le_refl _) _).alloc (by simp) _
  generalize (w.alloc (.cells #[.bool s, .slice p n nc, .bool t, .slice q m mc] 56)).alloc (.cells #[.bool false, .slice none 0 0, .bool false, .slice none 0 0] 56) = W at *
  refine (Sign_any t q m mc ys _ (hB.below hW)).mono ?_
  rintro e w1 ⟨rfl, hb⟩
  have hA1 := hA0.later hb
  have hR1 := hR.later hb
  obtain ⟨a0, a1, a2, a3, -, -, -, -⟩ := hA1
  obtain ⟨r0, r1, r2, r3, f0, f1, f2, f3⟩ := hR1
  rcases hc.out with h0 | h0 | h0
  · have hi : isgn (ival t ys) = 1 := isgn_pos h0
    rw [hi]
    go_wp2
    have hB' := bset4 (bnext' hW hb) (g := w.heap.size + 1) (by omega) (.bool s) (.slice p n nc) (.bool t) (.slice q m mc)
    exact bodyPost_ret (v := .agg #[.bool s, .slice p n nc, .bool t, .slice q m mc]) (by simp [results, Tryz.results89, go_sem, r0, r1, r2, r3]) rfl ⟨_, _, _, _, xs, _, _, _, _, ys, rfl, hA.below hB', hB.below hB', h0, rfl, hn, hm, fun g _ h1 h2 => ⟨h1, h2⟩, hB'⟩
  · have hi : isgn (ival t ys) = 0 := isgn_zero h0
    rw [hi]
    go_wp2_with fail
    refine (zero_any w1).mono ?_
    rintro e w2 ⟨t', q', m', ys', rfl, hN, hm', hb2⟩
    have hR2 := (hR.later hb).later hb2
    clear r0 r1 r2 r3 f0 f1 f2 f3
    obtain ⟨r0, r1, r2, r3, f0, f1, f2, f3⟩ := hR2
    have hs := hR.lt
    have hs1 := hb.size
    have hB' := bset4 (bnext' (bnext' hW hb) hb2) (g := w.heap.size + 1) (by omega) (.bool false) (.slice none 0 0) (.bool t') (.slice q' m' m')
    have hN' := hN.set4 (g := w.heap.size + 1) (by omega) (.bool false) (.slice none 0 0) (.bool t') (.slice q' m' m')
    have H0 : Hid (ival t ys = 0) := h0
    clear h0
    go_wp2
    exact bodyPost_ret (v := .agg #[.bool false, .slice none 0 0, .bool t', .slice q' m' m']) (by simp [results, Tryz.results89, go_sem, r0, r1, r2, r3]) rfl ⟨_, _, _, _, [], _, _, _, _, ys', rfl, AI.nil _, hN'.ai (by omega), by rw [hN'.v]; decide, by rw [hN'.v, H0.out, Rat.divInt_zero]; rfl, by omega, by omega, fun g hg _ _ => ⟨fun h => absurd h (Nat.lt_irrefl 0), fun _ => off_from hN'.fr (by have := hW.size; omega)⟩, hB'⟩
  · have hi : isgn (ival t ys) = -1 := isgn_neg h0
    rw [hi]
    have H0 : Hid (ival t ys < 0) := h0
    clear h0
    go_wp2_with fail
    go_region_held3 (fun w' => w'.cell? ⟨w.heap.size, 0, none⟩ = some (.bool s) ∧ w'.cell? ⟨w.heap.size, 1, none⟩ = some (.slice p n nc) ∧ w'.cell? ⟨w.heap.size, 2, none⟩ = some (.bool t) ∧ w'.cell? ⟨w.heap.size, 3, none⟩ = some (.slice q m mc)) (first | with_reducible exact ⟨a0, a1, a2, a3⟩ | with_reducible exact keepc4 ⟨a0, a1, a2, a3⟩ (undrew hb2) | with_reducible exact keepc4 ⟨a0, a1, a2, a3⟩ hB3 | (simp [go_sem, *]; done))
      (first
        | (go_at_call_of 99 (Value.agg #[.bool s, .slice p n nc]); refine (Neg_any s p n nc xs _ (hA.below (bnext' hW hb)).drew).mono ?_; rintro e w2 ⟨s1, p1, n1, x1, rfl, hN1, hn1, hb2⟩)
        | (go_at_call_of 99 (Value.agg #[.bool t, .slice q m mc]); refine (Neg_any t q m mc ys _ (hB.below (bnext' (bnext' hW hb) (undrew hb2)))).mono ?_; rintro e w3 ⟨s2, p2, n2, x2, rfl, hN2, hn2, hb3⟩; have hB3 := bnext' (undrew hb2) hb3; have hR3 := (hR.later hb).later hB3; obtain ⟨r0, r1, r2, r3, f0, f1, f2, f3⟩ := hR3))
    have hs := hR.lt
    have hs1 := hb.size
    have hs2 : w1.heap.size ≤ w2.heap.size := hb2.size
    have hB' := bset4 (bnext' (bnext' hW hb) hB3) (g := w.heap.size + 1) (by omega) (.bool s1) (.slice p1 n1 n1) (.bool s2) (.slice p2 n2 n2)
    have hN1' := (hN1.below hb3).set4 (g := w.heap.size + 1) (show w.heap.size + 1 < w1.heap.size by omega) (.bool s1) (.slice p1 n1 n1) (.bool s2) (.slice p2 n2 n2)
    have hN2' := hN2.set4 (g := w.heap.size + 1) (by omega) (.bool s1) (.slice p1 n1 n1) (.bool s2) (.slice p2 n2 n2)
    clear a0 a1 a2 a3
    go_wp2
    have l1 := hA.sml
    have l2 := hB.sml
    exact bodyPost_ret (v := .agg #[.bool s1, .slice p1 n1 n1, .bool s2, .slice p2 n2 n2]) (by simp [results, Tryz.results89, go_sem, r0, r1, r2, r3]) rfl ⟨_, _, _, _, x1, _, _, _, _, x2, rfl, hN1'.ai (by omega), hN2'.ai (by omega), by rw [hN2'.v, ival_not]; have := H0.out; omega, by rw [hN1'.v, hN2'.v, ival_not, ival_not, divInt_neg2], by omega, by omega, fun g hg _ _ => ⟨fun _ => off_from hN1'.fr (show g < w1.heap.size by have := hW.size; omega), fun _ => off_from hN2'.fr (by have := hW.size; omega)⟩, hB'⟩
end Go.Proofs.YtcdfckjlmifjiaaGreat
