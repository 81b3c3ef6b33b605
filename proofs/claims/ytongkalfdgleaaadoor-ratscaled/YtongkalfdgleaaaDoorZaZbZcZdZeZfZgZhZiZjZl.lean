/-
  Plain facts on rationals: lowest terms.
-/
import Derived.Test.YtongkalfdgleaaaDoorPl
import Derived.Test.YtongkalfdgleaaaDoorGg
import Derived.Test.YtongkalfdgleaaaDoorWf
import Derived.Test.YtongkalfdgleaaaDoorWh
import Derived.Test.YtongkalfdgleaaaDoorWk
import Derived.Test.YtongkalfdgleaaaDoorQh
import Derived.Test.YtongkalfdgleaaaDoorWj
import Derived.Test.YtongkalfdgleaaaDoorWg
import Derived.Test.YtongkalfdgleaaaDoorRbRfRhCyCzLhLj
import Derived.Test.YtongkalfdgleaaaDoorOi
import Derived.Test.YtongkalfdgleaaaDoorIb
import Derived.Test.YtongkalfdgleaaaDoorBe
import Derived.Test.YtongkalfdgleaaaDoorBf
import Derived.Test.YtongkalfdgleaaaDoorCu
namespace Go.Proofs.YtongkalfdgleaaaDoor
open Go.RowKit
set_option linter.unusedVariables false
set_option linter.unusedSimpArgs false

theorem rat_low (a b : Int) (hb : b ≠ 0) : ∃ g : Int, g = (if b < 0 then -(Int.gcd a b : Int) else (Int.gcd a b : Int)) ∧ g ≠ 0 ∧ a = (Rat.divInt a b).num * g ∧ b = (Rat.divInt a b).den * g := by
  refine ⟨_, rfl, ?_, ?_, ?_⟩
  · have : Int.gcd a b ≠ 0 := by intro h; rw [Int.gcd_eq_zero_iff] at h; exact hb h.2
    split <;> omega
  · rw [Rat.num_divInt, Int.gcd_comm b a]
    have hd : ((Int.gcd a b : Nat) : Int) ∣ a := Int.gcd_dvd_left ..
    have h1 : b.sign * a / (Int.gcd a b : Int) * (Int.gcd a b : Int) = b.sign * a := Int.ediv_mul_cancel (Int.dvd_trans hd (Int.dvd_mul_left ..))
    split
    · rename_i h
      rw [Int.mul_neg, h1, Int.sign_eq_neg_one_of_neg h]
      omega
    · rename_i h
      rw [h1, Int.sign_eq_one_of_pos (by omega)]
      omega
  · rw [Rat.den_divInt, if_neg hb, Int.gcd_comm b a]
    have hd : Int.gcd a b ∣ b.natAbs := Int.natAbs_dvd_natAbs.2 (Int.gcd_dvd_right a b)
    have h1 : (b.natAbs / Int.gcd a b) * Int.gcd a b = b.natAbs := Nat.div_mul_cancel hd
    have h2 : ((b.natAbs / Int.gcd a b : Nat) : Int) * (Int.gcd a b : Int) = (b.natAbs : Int) := by exact_mod_cast h1
    split
    · rw [Int.mul_neg, h2]; omega
    · rw [h2]; omega
theorem rat_num_le (a b : Int) : (Rat.divInt a b).num.natAbs ≤ a.natAbs := by
  by_cases hb : b = 0
  · subst hb; simp
  · obtain ⟨g, -, hg, h1, h2⟩ := rat_low a b hb
    have := congrArg Int.natAbs h1
    rw [Int.natAbs_mul] at this
    rw [this]
    exact Nat.le_mul_of_pos_right _ (by omega)
theorem rat_den_le (a b : Int) (hb : b ≠ 0) : (Rat.divInt a b).den ≤ b.natAbs := by
    obtain ⟨g, -, hg, h1, h2⟩ := rat_low a b hb
    have := congrArg Int.natAbs h2
    rw [Int.natAbs_mul] at this
    rw [this]
    exact Nat.le_mul_of_pos_right _ (by omega)
/-- Euclid's division has one answer. -/
theorem ediv_one (a q g r : Int) (n : Int) (h : a = q * g + r) (h0 : 0 ≤ r) (h1 : r < g.natAbs) (hn : a = n * g) : q = n ∧ r = 0 := by
  have hg : g ≠ 0 := by omega
  have h2 : (n - q) * g = r := by rw [Int.sub_mul]; omega
  by_cases h3 : n - q = 0
  · rw [h3] at h2
    omega
  · exfalso
    have h4 := congrArg Int.natAbs h2
    rw [Int.natAbs_mul] at h4
    have h5 : g.natAbs ≤ (n - q).natAbs * g.natAbs := Nat.le_mul_of_pos_left _ (by omega)
    omega
end Go.Proofs.YtongkalfdgleaaaDoor
/-
  Rationals as the program hands them about; rat.zero, upright.
-/
namespace Go.Proofs.YtongkalfdgleaaaDoor
open Go.RowKit
set_option linter.unusedVariables false
set_option linter.unusedSimpArgs false

/-- A variable of four cells. -/
structure Bq (w : World) (r : Nat) (a0 a1 a2 a3 : Value) : Prop where
  c0 : w.cell? ⟨r, 0, none⟩ = some a0
  c1 : w.cell? ⟨r, 1, none⟩ = some a1
  c2 : w.cell? ⟨r, 2, none⟩ = some a2
  c3 : w.cell? ⟨r, 3, none⟩ = some a3
  f0 : w.frozen? ⟨r, 0, none⟩ = false
  f1 : w.frozen? ⟨r, 1, none⟩ = false
  f2 : w.frozen? ⟨r, 2, none⟩ = false
  f3 : w.frozen? ⟨r, 3, none⟩ = false
theorem Bq.lt {w : World} {r : Nat} {a0 a1 a2 a3 : Value} (h : Bq w r a0 a1 a2 a3) : r < w.heap.size := block_lt_of_cell h.c0
theorem Bq.later {w w' : World} {r : Nat} {a0 a1 a2 a3 : Value} (h : Bq w r a0 a1 a2 a3) (hb : Below w.heap.size w w') : Bq w' r a0 a1 a2 a3 := by
  have hr := h.lt
  exact ⟨cell_later hb h.c0, cell_later hb h.c1, cell_later hb h.c2, cell_later hb h.c3, by rw [hb.frozen (p := ⟨r, 0, none⟩) hr]; exact h.f0, by rw [hb.frozen (p := ⟨r, 1, none⟩) hr]; exact h.f1, by rw [hb.frozen (p := ⟨r, 2, none⟩) hr]; exact h.f2, by rw [hb.frozen (p := ⟨r, 3, none⟩) hr]; exact h.f3⟩
theorem Bq.alloc {w : World} {r : Nat} {a0 a1 a2 a3 : Value} (h : Bq w r a0 a1 a2 a3) (o : Obj) : Bq (w.alloc o) r a0 a1 a2 a3 := h.later ((Below.refl _ _).alloc (Nat.le_refl _) o)
theorem Bq.new {w : World} {r : Nat} (a0 a1 a2 a3 : Value) (t : Nat) (hr : r = w.heap.size) : Bq (w.alloc (.cells #[a0, a1, a2, a3] t)) r a0 a1 a2 a3 := by
  subst hr
  refine ⟨?_, ?_, ?_, ?_, ?_, ?_, ?_, ?_⟩ <;> simp [go_sem, World.cell?_alloc_past, World.frozen?_alloc_past]
theorem NI.le {B : Nat} {w : World} {s : Bool} {p : Option Addr} {n : Nat} {xs : List Int} {z : Int} (h : NI B w s p n xs z) {k : Nat} (hz : (z.natAbs : Int) < pw k) : n ≤ k := by
  have hv : (z.natAbs : Int) = val xs := by
    have := val_nonneg h.u
    rw [← h.v, ival]
    split <;> omega
  rcases Nat.eq_zero_or_pos n with h0 | h0
  · omega
  · have h1 := val_pos_of_top h.u (by rw [h.nrm]; exact h0)
    rw [h.nrm] at h1
    have h2 : n - 1 < k := by
      rcases Nat.lt_or_ge (n - 1) k with h3 | h3
      · exact h3
      · have := pw_mono h3; omega
    omega
theorem AI.lt {w : World} {p : Option Addr} {n nc : Nat} {xs : List Int} (h : AI w p n nc xs) (s : Bool) : ((ival s xs).natAbs : Int) < pw n := by
  have h1 := val_nonneg h.u
  have h2 := val_lt_tlen h.u
  have h3 := pw_mono (tlen_le xs)
  rw [h.len] at h3
  rw [ival]
  split <;> omega
theorem bset4 {B g : Nat} {a b : World} (h : Below B a b) (hg : B ≤ g) (u v x y : Value) : Below B a ((((b.setCell ⟨g, 0, none⟩ u).setCell ⟨g, 1, none⟩ v).setCell ⟨g, 2, none⟩ x).setCell ⟨g, 3, none⟩ y) :=
  (((h.setCell (p := ⟨g, 0, none⟩) hg u).setCell (p := ⟨g, 1, none⟩) hg v).setCell (p := ⟨g, 2, none⟩) hg x).setCell (p := ⟨g, 3, none⟩) hg y
theorem NI.set4 {B : Nat} {w : World} {s : Bool} {p : Option Addr} {n : Nat} {xs : List Int} {z : Int} (h : NI B w s p n xs z) {g : Nat} (hg : g < B) (u v x y : Value) : NI B ((((w.setCell ⟨g, 0, none⟩ u).setCell ⟨g, 1, none⟩ v).setCell ⟨g, 2, none⟩ x).setCell ⟨g, 3, none⟩ y) s p n xs z :=
  (((h.set (a := ⟨g, 0, none⟩) hg u).set (a := ⟨g, 1, none⟩) hg v).set (a := ⟨g, 2, none⟩) hg x).set (a := ⟨g, 3, none⟩) hg y
theorem off_from {B g : Nat} {p : Option Addr} (h : Go.Proofs.YtongkalfdgleaaaDoor.From B p) (hg : g < B) : Off g p := fun a ha e => by have := h a ha; omega
theorem AI.setOff {w : World} {p : Option Addr} {n nc : Nat} {xs : List Int} (h : AI w p n nc xs) {a : Addr} (hne : 0 < n → Off a.block p) (v : Value) : AI (w.setCell a v) p n nc xs :=
  ⟨h.len, h.cap, h.bnd, h.sml, fun hx => h.rd.set_other a v (hne (by rw [← h.len]; exact hx)) hx, h.u⟩
theorem AI.set4 {w : World} {p : Option Addr} {n nc : Nat} {xs : List Int} (h : AI w p n nc xs) {g : Nat} (hg : 0 < n → Off g p) (u v x y : Value) : AI ((((w.setCell ⟨g, 0, none⟩ u).setCell ⟨g, 1, none⟩ v).setCell ⟨g, 2, none⟩ x).setCell ⟨g, 3, none⟩ y) p n nc xs :=
  (((h.setOff (a := ⟨g, 0, none⟩) hg u).setOff (a := ⟨g, 1, none⟩) hg v).setOff (a := ⟨g, 2, none⟩) hg x).setOff (a := ⟨g, 3, none⟩) hg y
theorem AI.off {w : World} {p : Option Addr} {n nc : Nat} {xs : List Int} (h : AI w p n nc xs) {g : Nat} (hg : w.heap.size ≤ g) : 0 < n → Off g p := fun hn => h.rd.off hg (by rw [h.len]; exact hn)
theorem isgn_pos {z : Int} (h : 0 < z) : isgn z = 1 := by unfold isgn; rw [if_neg (by omega), if_neg (by omega)]
theorem isgn_neg {z : Int} (h : z < 0) : isgn z = -1 := by unfold isgn; rw [if_neg (by omega), if_pos h]
theorem isgn_zero {z : Int} (h : z = 0) : isgn z = 0 := by unfold isgn; rw [if_pos h]
theorem AI.nil (w : World) : AI w none 0 0 [] := ⟨rfl, Nat.le_refl _, by unfold maxLen; omega, by omega, Rd.nil, fun j => by simp [gx]⟩
theorem divInt_neg2 (a b : Int) : Rat.divInt (-a) (-b) = Rat.divInt a b := by
  have := Rat.divInt_mul_right (n := a) (d := b) (a := -1) (by decide)
  rwa [Int.mul_neg_one, Int.mul_neg_one] at this
set_option maxRecDepth 100000 in
set_option maxHeartbeats 2000000 in
/-- rat.zero. -/
theorem zero_any (w : World) : Calls Tryd.prog 37 #[] w fun e w' => ∃ t q m ys, e = .returned (.agg #[.bool false, .slice none 0 0, .bool t, .slice q m m]) ∧ NI w.heap.size w' t q m ys 1 ∧ m ≤ 1 ∧ Below w.heap.size w w' := by
  go_enter Tryd.func37, Tryd.ntmps37
  go_wp2_with fail
  have hR : Bq (w.alloc (.cells #[.bool false, .slice none 0 0, .bool false, .slice none 0 0] 26)) w.heap.size (.bool false) (.slice none 0 0) (.bool false) (.slice none 0 0) := Bq.new _ _ _ _ _ rfl
  have hW : Below w.heap.size w (w.alloc (.cells #[.bool false, .slice none 0 0, .bool false, .slice none 0 0] 26)) := (Below.refl _ _).alloc (Nat.le_refl _) _
  generalize w.alloc (.cells #[.bool false, .slice none 0 0, .bool false, .slice none 0 0] 26) = W at *
  refine (Of_any 1 _ (by decide) (by decide)).mono ?_
  rintro e w1 ⟨t, q, m, ys, rfl, hN, hn, hb⟩
  have hR1 := hR.later hb
  obtain ⟨r0, r1, r2, r3, f0, f1, f2, f3⟩ := hR1
  have hs := hR.lt
  go_wp2
  refine bodyPost_ret (v := .agg #[.bool false, .slice none 0 0, .bool t, .slice q m m]) (by simp [results, Tryd.results37, go_sem, r0, r1, r2, r3]) rfl ⟨t, q, m, ys, rfl, ?_, hN.le (by decide), ?_⟩
  · exact (hN.set4 hs _ _ _ _).mono hW.size
  · exact bset4 (bnext' hW hb) (Nat.le_refl _) _ _ _ _
/-- What upright answers. -/
def UpPost (K : Nat) (Q : Rat) (n0 m0 : Nat) (p0 q0 : Option Addr) (w : World) (e : Ending) (w' : World) : Prop :=
  ∃ s p n nc xs t q m mc ys, e = .returned (.agg #[.bool s, .slice p n nc, .bool t, .slice q m mc]) ∧ AI w' p n nc xs ∧ AI w' q m mc ys ∧ 0 < ival t ys ∧ Rat.divInt (ival s xs) (ival t ys) = Q ∧ n ≤ K ∧ m ≤ K ∧
    (∀ g, g < w.heap.size → (0 < n0 → Off g p0) → (0 < m0 → Off g q0) → (0 < n → Off g p) ∧ (0 < m → Off g q)) ∧ Below w.heap.size w w'
set_option maxRecDepth 100000 in
set_option maxHeartbeats 2000000 in
theorem upright_any (s t : Bool) (p q : Option Addr) (n nc m mc : Nat) (xs ys : List Int) (w : World) (hA : AI w p n nc xs) (hB : AI w q m mc ys) (K : Nat) (hK : 1 ≤ K) (hn : n ≤ K) (hm : m ≤ K) :
    Calls Tryd.prog 22 #[.agg #[.bool s, .slice p n nc, .bool t, .slice q m mc]] w (UpPost K (Rat.divInt (ival s xs) (ival t ys)) n m p q w) := by
  have hc : Hid (0 < ival t ys ∨ ival t ys = 0 ∨ ival t ys < 0) := by have : 0 < ival t ys ∨ ival t ys = 0 ∨ ival t ys < 0 := by omega
                                                                      exact this
  go_enter Tryd.func22, Tryd.ntmps22
  go_wp2_with fail
  have hA0 : Bq ((w.alloc (.cells #[.bool s, .slice p n nc, .bool t, .slice q m mc] 26)).alloc (.cells #[.bool false, .slice none 0 0, .bool false, .slice none 0 0] 26)) w.heap.size (.bool s) (.slice p n nc) (.bool t) (.slice q m mc) := (Bq.new _ _ _ _ _ rfl).alloc _
  have hR : Bq ((w.alloc (.cells #[.bool s, .slice p n nc, .bool t, .slice q m mc] 26)).alloc (.cells #[.bool false, .slice none 0 0, .bool false, .slice none 0 0] 26)) (w.heap.size + 1) (.bool false) (.slice none 0 0) (.bool false) (.slice none 0 0) := Bq.new _ _ _ _ _ (by simp)
  have hW : Below w.heap.size w ((w.alloc (.cells #[.bool s, .slice p n nc, .bool t, .slice q m mc] 26)).alloc (.cells #[.bool false, .slice none 0 0, .bool false, .slice none 0 0] 26)) := ((Below.refl _ _).alloc (Nat.le_refl _) _).alloc (by simp) _
  generalize (w.alloc (.cells #[.bool s, .slice p n nc, .bool t, .slice q m mc] 26)).alloc (.cells #[.bool false, .slice none 0 0, .bool false, .slice none 0 0] 26) = W at *
  refine (Sign_any t q m mc ys _ (hB.below hW)).mono ?_
  rintro e w1 ⟨rfl, hb⟩
  have hA1 := hA0.later hb
  have hR1 := hR.later hb
  obtain ⟨a0, a1, a2, a3, -, -, -, -⟩ := hA1
  obtain ⟨r0, r1, r2, r3, f0, f1, f2, f3⟩ := hR1
  rcases hc.out with h0 | h0 | h0
  · have hi : isgn (ival t ys) = 1 := isgn_pos h0
    rw [hi]
    go_wp2
    have hB' := bset4 (bnext' hW hb) (g := w.heap.size + 1) (by omega) (.bool s) (.slice p n nc) (.bool t) (.slice q m mc)
    exact bodyPost_ret (v := .agg #[.bool s, .slice p n nc, .bool t, .slice q m mc]) (by simp [results, Tryd.results22, go_sem, r0, r1, r2, r3]) rfl ⟨_, _, _, _, xs, _, _, _, _, ys, rfl, hA.below hB', hB.below hB', h0, rfl, hn, hm, fun g _ h1 h2 => ⟨h1, h2⟩, hB'⟩
  · have hi : isgn (ival t ys) = 0 := isgn_zero h0
    rw [hi]
    go_wp2_with fail
    refine (zero_any w1).mono ?_
    rintro e w2 ⟨t', q', m', ys', rfl, hN, hm', hb2⟩
    have hR2 := (hR.later hb).later hb2
    clear r0 r1 r2 r3 f0 f1 f2 f3
    obtain ⟨r0, r1, r2, r3, f0, f1, f2, f3⟩ := hR2
    have hs := hR.lt
    have hs1 := hb.size
    have hB' := bset4 (bnext' (bnext' hW hb) hb2) (g := w.heap.size + 1) (by omega) (.bool false) (.slice none 0 0) (.bool t') (.slice q' m' m')
    have hN' := hN.set4 (g := w.heap.size + 1) (by omega) (.bool false) (.slice none 0 0) (.bool t') (.slice q' m' m')
    have H0 : Hid (ival t ys = 0) := h0
    clear h0
    go_wp2
    exact bodyPost_ret (v := .agg #[.bool false, .slice none 0 0, .bool t', .slice q' m' m']) (by simp [results, Tryd.results22, go_sem, r0, r1, r2, r3]) rfl ⟨_, _, _, _, [], _, _, _, _, ys', rfl, AI.nil _, hN'.ai (by omega), by rw [hN'.v]; decide, by rw [hN'.v, H0.out, Rat.divInt_zero]; rfl, by omega, by omega, fun g hg _ _ => ⟨fun h => absurd h (Nat.lt_irrefl 0), fun _ => off_from hN'.fr (by have := hW.size; omega)⟩, hB'⟩
  · have hi : isgn (ival t ys) = -1 := isgn_neg h0
    rw [hi]
    have H0 : Hid (ival t ys < 0) := h0
    clear h0
    go_wp2_with fail
    go_region_held3 (fun w' => w'.cell? ⟨w.heap.size, 0, none⟩ = some (.bool s) ∧ w'.cell? ⟨w.heap.size, 1, none⟩ = some (.slice p n nc) ∧ w'.cell? ⟨w.heap.size, 2, none⟩ = some (.bool t) ∧ w'.cell? ⟨w.heap.size, 3, none⟩ = some (.slice q m mc)) (first | with_reducible exact ⟨a0, a1, a2, a3⟩ | with_reducible exact keepc4 ⟨a0, a1, a2, a3⟩ (undrew hb2) | with_reducible exact keepc4 ⟨a0, a1, a2, a3⟩ hB3 | (simp [go_sem, *]; done))
      (first
        | (go_at_call_of 38 (Value.agg #[.bool s, .slice p n nc]); refine (Neg_any s p n nc xs _ (hA.below (bnext' hW hb)).drew).mono ?_; rintro e w2 ⟨s1, p1, n1, x1, rfl, hN1, hn1, hb2⟩)
        | (go_at_call_of 38 (Value.agg #[.bool t, .slice q m mc]); refine (Neg_any t q m mc ys _ (hB.below (bnext' (bnext' hW hb) (undrew hb2)))).mono ?_; rintro e w3 ⟨s2, p2, n2, x2, rfl, hN2, hn2, hb3⟩; have hB3 := bnext' (undrew hb2) hb3; have hR3 := (hR.later hb).later hB3; obtain ⟨r0, r1, r2, r3, f0, f1, f2, f3⟩ := hR3))
    have hs := hR.lt
    have hs1 := hb.size
    have hs2 : w1.heap.size ≤ w2.heap.size := hb2.size
    have hB' := bset4 (bnext' (bnext' hW hb) hB3) (g := w.heap.size + 1) (by omega) (.bool s1) (.slice p1 n1 n1) (.bool s2) (.slice p2 n2 n2)
    have hN1' := (hN1.below hb3).set4 (g := w.heap.size + 1) (show w.heap.size + 1 < w1.heap.size by omega) (.bool s1) (.slice p1 n1 n1) (.bool s2) (.slice p2 n2 n2)
    have hN2' := hN2.set4 (g := w.heap.size + 1) (by omega) (.bool s1) (.slice p1 n1 n1) (.bool s2) (.slice p2 n2 n2)
    clear a0 a1 a2 a3
    go_wp2
    have l1 := hA.sml
    have l2 := hB.sml
    exact bodyPost_ret (v := .agg #[.bool s1, .slice p1 n1 n1, .bool s2, .slice p2 n2 n2]) (by simp [results, Tryd.results22, go_sem, r0, r1, r2, r3]) rfl ⟨_, _, _, _, x1, _, _, _, _, x2, rfl, hN1'.ai (by omega), hN2'.ai (by omega), by rw [hN2'.v, ival_not]; have := H0.out; omega, by rw [hN1'.v, hN2'.v, ival_not, ival_not, divInt_neg2], by omega, by omega, fun g hg _ _ => ⟨fun _ => off_from hN1'.fr (show g < w1.heap.size by have := hW.size; omega), fun _ => off_from hN2'.fr (by have := hW.size; omega)⟩, hB'⟩
end Go.Proofs.YtongkalfdgleaaaDoor
/-
  rat.lowest.
-/
namespace Go.Proofs.YtongkalfdgleaaaDoor
open Go.RowKit
set_option linter.unusedVariables false
set_option linter.unusedSimpArgs false

theorem Bq_oth2 {w : World} {r g : Nat} {a0 a1 a2 a3 x y : Value} (h : Bq w r a0 a1 a2 a3) (hne : r ≠ g) : Bq ((w.setCell ⟨g, 0, none⟩ x).setCell ⟨g, 1, none⟩ y) r a0 a1 a2 a3 := by
  have e : ((w.setCell ⟨g, 0, none⟩ x).setCell ⟨g, 1, none⟩ y).heap[r]? = w.heap[r]? := by rw [heap_setCell_other _ _ _ _ hne, heap_setCell_other _ _ _ _ hne]
  exact ⟨by rw [World.cell?_of_block e]; exact h.c0, by rw [World.cell?_of_block e]; exact h.c1, by rw [World.cell?_of_block e]; exact h.c2, by rw [World.cell?_of_block e]; exact h.c3, by rw [World.frozen?_of_block e]; exact h.f0, by rw [World.frozen?_of_block e]; exact h.f1, by rw [World.frozen?_of_block e]; exact h.f2, by rw [World.frozen?_of_block e]; exact h.f3⟩
/-- A rational that is answered: in normal form, in memory from block B on. -/
structure NR (B : Nat) (w : World) (s : Bool) (p : Option Addr) (n : Nat) (xs : List Int) (t : Bool) (q : Option Addr) (m : Nat) (ys : List Int) (r : Rat) : Prop where
  num : NI B w s p n xs r.num
  den : NI B w t q m ys (r.den : Int)
/-- What a function answers that gives a rational. -/
def NrPost (r : Rat) (w : World) (e : Ending) (w' : World) : Prop :=
  ∃ s p n xs t q m ys, e = .returned (.agg #[.bool s, .slice p n n, .bool t, .slice q m m]) ∧ NR w.heap.size w' s p n xs t q m ys r ∧ Below w.heap.size w w'
set_option maxRecDepth 100000 in
set_option maxHeartbeats 2000000 in
/-- rat.lowest. -/
theorem lowest_any (s t : Bool) (p q : Option Addr) (n nc m mc : Nat) (xs ys : List Int) (w : World) (hA : AI w p n nc xs) (hB : AI w q m mc ys) (hd : ival t ys ≠ 0) (hn : n < 80) (hm : m < 80) :
    Calls Tryd.prog 25 #[.agg #[.bool s, .slice p n nc], .agg #[.bool t, .slice q m mc]] w (NrPost (Rat.divInt (ival s xs) (ival t ys)) w) := by
  obtain ⟨G, hG, hG0, hGa, hGb⟩ := rat_low (ival s xs) (ival t ys) hd
  have HG : Hid (G = (if ival t ys < 0 then -(Int.gcd (ival s xs) (ival t ys) : Int) else (Int.gcd (ival s xs) (ival t ys) : Int)) ∧ G ≠ 0 ∧ ival s xs = (Rat.divInt (ival s xs) (ival t ys)).num * G ∧ ival t ys = (Rat.divInt (ival s xs) (ival t ys)).den * G) := ⟨hG, hG0, hGa, hGb⟩
  clear hG hG0 hGa hGb
  generalize Rat.divInt (ival s xs) (ival t ys) = R at *
  go_enter Tryd.func25, Tryd.ntmps25
  go_wp2_with fail
  have hA0 : Bx (((w.alloc (.cells #[.bool s, .slice p n nc] 24)).alloc (.cells #[.bool t, .slice q m mc] 24)).alloc (.cells #[.bool false, .slice none 0 0, .bool false, .slice none 0 0] 26)) w.heap.size (.bool s) (.slice p n nc) := ((Bx.new _ _ _ rfl).alloc _).alloc _
  have hB0 : Bx (((w.alloc (.cells #[.bool s, .slice p n nc] 24)).alloc (.cells #[.bool t, .slice q m mc] 24)).alloc (.cells #[.bool false, .slice none 0 0, .bool false, .slice none 0 0] 26)) (w.heap.size + 1) (.bool t) (.slice q m mc) := (Bx.new _ _ _ (by simp)).alloc _
  have hR : Bq (((w.alloc (.cells #[.bool s, .slice p n nc] 24)).alloc (.cells #[.bool t, .slice q m mc] 24)).alloc (.cells #[.bool false, .slice none 0 0, .bool false, .slice none 0 0] 26)) (w.heap.size + 1 + 1) (.bool false) (.slice none 0 0) (.bool false) (.slice none 0 0) := Bq.new _ _ _ _ _ (by simp)
  have hW : Below w.heap.size w (((w.alloc (.cells #[.bool s, .slice p n nc] 24)).alloc (.cells #[.bool t, .slice q m mc] 24)).alloc (.cells #[.bool false, .slice none 0 0, .bool false, .slice none 0 0] 26)) := (((Below.refl _ _).alloc (Nat.le_refl _) _).alloc (by simp) _).alloc (by simp; omega) _
  generalize ((w.alloc (.cells #[.bool s, .slice p n nc] 24)).alloc (.cells #[.bool t, .slice q m mc] 24)).alloc (.cells #[.bool false, .slice none 0 0, .bool false, .slice none 0 0] 26) = W at *
  refine (Gcd_any s t p q n nc m mc xs ys _ (hA.below hW) (hB.below hW) hn hm).mono ?_
  rintro e w1 ⟨s1, p1, n1, z1, rfl, hN1, hn1, hb1⟩
  have hA2 := (hA0.later hb1).alloc (.cells #[.bool s1, .slice p1 n1 n1] 24)
  have hB2 := (hB0.later hb1).alloc (.cells #[.bool s1, .slice p1 n1 n1] 24)
  have hR2 := (hR.later hb1).alloc (.cells #[.bool s1, .slice p1 n1 n1] 24)
  have hg2 : Bx (w1.alloc (.cells #[.bool s1, .slice p1 n1 n1] 24)) w1.heap.size (.bool s1) (.slice p1 n1 n1) := Bx.new _ _ _ rfl
  have hN2 := NI_al (o := .cells #[.bool s1, .slice p1 n1 n1] 24) hN1
  have hW2 := bnext' hW (bel_al (o := .cells #[.bool s1, .slice p1 n1 n1] 24) hb1)
  have sW := hb1.size
  have sR := hR.lt
  clear hA0 hB0 hR hb1 hN1 hW
  have b0 := hB2.c0
  have b1 := hB2.c1
  have sr := hR2.lt
  have hn1' : n1 ≤ m := hN2.le (by have := hB.lt t; have h2 := Int.gcd_le_natAbs_right (a := ival s xs) hd; omega)
  go_wp2_with fail
  generalize w1.alloc (.cells #[.bool s1, .slice p1 n1 n1] 24) = W2 at *
  generalize w1.heap.size = g at *
  refine (Sign_any t q m mc ys _ (hB.below hW2)).mono ?_
  rintro e w3 ⟨rfl, hb3⟩
  have hA3 := hA2.later hb3
  have hB3 := hB2.later hb3
  have hR3 := hR2.later hb3
  have hg3 := hg2.later hb3
  have hN3 := hN2.below hb3
  have hW3 := bnext' hW2 hb3
  clear hA2 hB2 hR2 hg2 hN2 hW2 hb3 b0 b1 sr
  rcases (show ival t ys < 0 ∨ 0 < ival t ys by omega) with h0 | h0
  · rw [isgn_neg h0]
    have HG4 : Hid (G = -(Int.gcd (ival s xs) (ival t ys) : Int)) := by have := HG.out.1; rw [if_pos h0] at this; exact this
    clear h0
    have g0 := hg3.c0
    have g1 := hg3.c1
    go_wp2_with fail
    refine (Neg_any s1 p1 n1 n1 z1 _ (hN3.ai (by omega))).mono ?_
    rintro e w4 ⟨s4, p4, n4, z4, rfl, hN4, hn4, hb4⟩
    have hg4 := hg3.later hb4
    have hv4 : ival (!s1) z1 = G := by rw [ival_not, hN3.v, HG4.out]
    rw [hv4] at hN4
    have sl : g < w3.heap.size := block_lt_of_cell g0
    have sl2 := hW3.size
    have hA5 := Bx_oth (g := g) (x := .bool s4) (y := .slice p4 n4 n4) (hA3.later hb4) (by omega)
    have hB5 := Bx_oth (g := g) (x := .bool s4) (y := .slice p4 n4 n4) (hB3.later hb4) (by omega)
    have hR5 := Bq_oth2 (g := g) (x := .bool s4) (y := .slice p4 n4 n4) (hR3.later hb4) (by omega)
    have hg5 := Bx_set (x := .bool s4) (y := .slice p4 n4 n4) hg4
    have hN5 := (((hN4.set (a := ⟨g, 0, none⟩) sl (.bool s4)).set (a := ⟨g, 1, none⟩) sl (.slice p4 n4 n4))).mono (B' := W.heap.size) (by omega)
    have hW5 := bset2 (g := g) (bnext' hW3 hb4) (by omega) (.bool s4) (.slice p4 n4 n4)
    obtain ⟨-, -, gf0, gf1⟩ := hg4
    have g0' := (hg3.later hb4).c0
    have g1' := (hg3.later hb4).c1
    clear hA3 hB3 hR3 hg3 hN3 hW3 hv4 HG4 g0 g1 hN4
    have a0 := hA5.c0
    have a1 := hA5.c1
    have g0 := hg5.c0
    have g1 := hg5.c1
    go_wp2_with fail
    have hG0 : val z4 ≠ 0 := by
      intro h
      have h2 := hN5.v
      have h3 := HG.out.2.1
      rw [ival, h] at h2
      simp at h2
      exact h3 h2.symm
    refine (Quo_small s s4 p p4 n nc n4 n4 xs z4 _ (hA.below hW5) (hN5.ai (by omega)) (by omega) (by omega) hG0).mono ?_
    rintro e w6 ⟨s6, p6, n6, z6, s7, p7, n7, z7, Q, R7, rfl, hN6, hN7, h1, h2, h3, hn6, hn7, hb6⟩
    have hB6 := hB5.later hb6
    have hR6 := hR5.later hb6
    have hg6 := hg5.later hb6
    have hN6' := hN5.below hb6
    have hW6 := bnext' hW5 hb6
    obtain ⟨rfl, rfl⟩ : Q = R.num ∧ R7 = 0 := by
      rw [hN5.v] at h1 h3
      exact ediv_one _ _ _ _ _ h1.symm h2 h3 HG.out.2.2.1
    have sV := (show _ < _ from block_lt_of_cell hg5.c0)
    have hM6 := hN6.mono (B' := W.heap.size) (Nat.le_of_lt (Nat.lt_of_le_of_lt sW sV))
    clear a0 a1 g0 g1 hN6 hN7 h1 h2 h3 hn7
    have hal := bel_al (o := .cells #[.bool s7, .slice p7 n7 n7] 24) (bel_al (o := .cells #[.bool s6, .slice p6 n6 n6] 24) (Below.refl w6.heap.size w6))
    have hB8 := hB6.later hal
    have hR8 := hR6.later hal
    have hg8 := hg6.later hal
    have hM8 := hM6.below hal
    have hN8 := hN6'.below hal
    have hW8 := bnext' hW6 hal
    have hn8 : Bx ((w6.alloc (.cells #[.bool s6, .slice p6 n6 n6] 24)).alloc (.cells #[.bool s7, .slice p7 n7 n7] 24)) w6.heap.size (.bool s6) (.slice p6 n6 n6) := (Bx.new _ _ _ rfl).alloc _
    clear hal hB6 hR6 hg6 hM6 hN6' hW6 hA5 hB5 hR5 hg5 hN5 hW5 hb6
    have b0 := hB8.c0
    have b1 := hB8.c1
    have g0 := hg8.c0
    have g1 := hg8.c1
    go_wp2_with fail
    generalize (w6.alloc (.cells #[.bool s6, .slice p6 n6 n6] 24)).alloc (.cells #[.bool s7, .slice p7 n7 n7] 24) = W8 at *
    generalize w6.heap.size = gn at *
    refine (Quo_small t s4 q p4 m mc n4 n4 ys z4 _ (hB.below hW8) (hN8.ai (by omega)) (by omega) (by omega) hG0).mono ?_
    rintro e w9 ⟨s9, p9, n9, z9, s10, p10, n10, z10, Q, R7, rfl, hN9, hN10, h1, h2, h3, hn9, hn10, hb9⟩
    obtain ⟨rfl, rfl⟩ : Q = R.den ∧ R7 = 0 := by
      rw [hN8.v] at h1 h3
      exact ediv_one _ _ _ _ _ h1.symm h2 h3 HG.out.2.2.2
    have sV2 := (show _ < _ from block_lt_of_cell g0)
    have hal := bel_al (o := .cells #[.bool s10, .slice p10 n10 n10] 24) (bel_al (o := .cells #[.bool s9, .slice p9 n9 n9] 24) hb9)
    have hR11 := hR8.later hal
    have hn11 := hn8.later hal
    have hd11 : Bx ((w9.alloc (.cells #[.bool s9, .slice p9 n9 n9] 24)).alloc (.cells #[.bool s10, .slice p10 n10 n10] 24)) w9.heap.size (.bool s9) (.slice p9 n9 n9) := (Bx.new _ _ _ rfl).alloc _
    have hM11 := hM8.below hal
    have hW11 := bnext' hW8 hal
    have hE11 := (NI_al (o := .cells #[.bool s10, .slice p10 n10 n10] 24) (NI_al (o := .cells #[.bool s9, .slice p9 n9 n9] 24) hN9)).mono (B' := W.heap.size) (Nat.le_of_lt (Nat.lt_of_le_of_lt sW sV2))
    clear b0 b1 g0 g1 hB8 hR8 hg8 hM8 hN8 hW8 hn8 hal hN9 hN10 h1 h2 h3 hb9
    obtain ⟨r0, r1, r2, r3, f0, f1, f2, f3⟩ := hR11
    obtain ⟨n0, n1', -, -⟩ := hn11
    obtain ⟨d0, d1, -, -⟩ := hd11
    go_wp2
    generalize (w9.alloc (.cells #[.bool s9, .slice p9 n9 n9] 24)).alloc (.cells #[.bool s10, .slice p10 n10 n10] 24) = W11 at *
    refine bodyPost_ret (v := .agg #[.bool s6, .slice p6 n6 n6, .bool s9, .slice p9 n9 n9]) (by simp [results, Tryd.results25, go_sem, r0, r1, r2, r3]) rfl ⟨_, _, _, z6, _, _, _, z9, rfl, ⟨?_, ?_⟩, ?_⟩
    · exact (hM11.set4 sR _ _ _ _).mono (by omega)
    · exact (hE11.set4 sR _ _ _ _).mono (by omega)
    · exact bset4 hW11 (by omega) _ _ _ _
  · rw [isgn_pos h0]
    have HG4 : Hid (G = (Int.gcd (ival s xs) (ival t ys) : Int)) := by have := HG.out.1; rw [if_neg (by omega)] at this; exact this
    clear h0
    rw [← HG4.out] at hN3
    obtain ⟨s4, hs4⟩ : ∃ x, x = s1 := ⟨_, rfl⟩
    obtain ⟨p4, hp4⟩ : ∃ x, x = p1 := ⟨_, rfl⟩
    obtain ⟨n4, hn4⟩ : ∃ x, x = n1 := ⟨_, rfl⟩
    obtain ⟨z4, hz4⟩ : ∃ x, x = z1 := ⟨_, rfl⟩
    subst hs4 hp4 hn4 hz4
    have hA5 := hA3
    have hB5 := hB3
    have hR5 := hR3
    have hg5 := hg3
    have hN5 := hN3
    have hW5 := hW3
    clear hA3 hB3 hR3 hg3 hN3 hW3 HG4
    have a0 := hA5.c0
    have a1 := hA5.c1
    have g0 := hg5.c0
    have g1 := hg5.c1
    go_wp2_with fail
    have hG0 : val z4 ≠ 0 := by
      intro h
      have h2 := hN5.v
      have h3 := HG.out.2.1
      rw [ival, h] at h2
      simp at h2
      exact h3 h2.symm
    refine (Quo_small s s4 p p4 n nc n4 n4 xs z4 _ (hA.below hW5) (hN5.ai (by omega)) (by omega) (by omega) hG0).mono ?_
    rintro e w6 ⟨s6, p6, n6, z6, s7, p7, n7, z7, Q, R7, rfl, hN6, hN7, h1, h2, h3, hn6, hn7, hb6⟩
    have hB6 := hB5.later hb6
    have hR6 := hR5.later hb6
    have hg6 := hg5.later hb6
    have hN6' := hN5.below hb6
    have hW6 := bnext' hW5 hb6
    obtain ⟨rfl, rfl⟩ : Q = R.num ∧ R7 = 0 := by
      rw [hN5.v] at h1 h3
      exact ediv_one _ _ _ _ _ h1.symm h2 h3 HG.out.2.2.1
    have sV := (show _ < _ from block_lt_of_cell hg5.c0)
    have hM6 := hN6.mono (B' := W.heap.size) (Nat.le_of_lt (Nat.lt_of_le_of_lt sW sV))
    clear a0 a1 g0 g1 hN6 hN7 h1 h2 h3 hn7
    have hal := bel_al (o := .cells #[.bool s7, .slice p7 n7 n7] 24) (bel_al (o := .cells #[.bool s6, .slice p6 n6 n6] 24) (Below.refl w6.heap.size w6))
    have hB8 := hB6.later hal
    have hR8 := hR6.later hal
    have hg8 := hg6.later hal
    have hM8 := hM6.below hal
    have hN8 := hN6'.below hal
    have hW8 := bnext' hW6 hal
    have hn8 : Bx ((w6.alloc (.cells #[.bool s6, .slice p6 n6 n6] 24)).alloc (.cells #[.bool s7, .slice p7 n7 n7] 24)) w6.heap.size (.bool s6) (.slice p6 n6 n6) := (Bx.new _ _ _ rfl).alloc _
    clear hal hB6 hR6 hg6 hM6 hN6' hW6 hA5 hB5 hR5 hg5 hN5 hW5 hb6
    have b0 := hB8.c0
    have b1 := hB8.c1
    have g0 := hg8.c0
    have g1 := hg8.c1
    go_wp2_with fail
    generalize (w6.alloc (.cells #[.bool s6, .slice p6 n6 n6] 24)).alloc (.cells #[.bool s7, .slice p7 n7 n7] 24) = W8 at *
    generalize w6.heap.size = gn at *
    refine (Quo_small t s4 q p4 m mc n4 n4 ys z4 _ (hB.below hW8) (hN8.ai (by omega)) (by omega) (by omega) hG0).mono ?_
    rintro e w9 ⟨s9, p9, n9, z9, s10, p10, n10, z10, Q, R7, rfl, hN9, hN10, h1, h2, h3, hn9, hn10, hb9⟩
    obtain ⟨rfl, rfl⟩ : Q = R.den ∧ R7 = 0 := by
      rw [hN8.v] at h1 h3
      exact ediv_one _ _ _ _ _ h1.symm h2 h3 HG.out.2.2.2
    have sV2 := (show _ < _ from block_lt_of_cell g0)
    have hal := bel_al (o := .cells #[.bool s10, .slice p10 n10 n10] 24) (bel_al (o := .cells #[.bool s9, .slice p9 n9 n9] 24) hb9)
    have hR11 := hR8.later hal
    have hn11 := hn8.later hal
    have hd11 : Bx ((w9.alloc (.cells #[.bool s9, .slice p9 n9 n9] 24)).alloc (.cells #[.bool s10, .slice p10 n10 n10] 24)) w9.heap.size (.bool s9) (.slice p9 n9 n9) := (Bx.new _ _ _ rfl).alloc _
    have hM11 := hM8.below hal
    have hW11 := bnext' hW8 hal
    have hE11 := (NI_al (o := .cells #[.bool s10, .slice p10 n10 n10] 24) (NI_al (o := .cells #[.bool s9, .slice p9 n9 n9] 24) hN9)).mono (B' := W.heap.size) (Nat.le_of_lt (Nat.lt_of_le_of_lt sW sV2))
    clear b0 b1 g0 g1 hB8 hR8 hg8 hM8 hN8 hW8 hn8 hal hN9 hN10 h1 h2 h3 hb9
    obtain ⟨r0, r1, r2, r3, f0, f1, f2, f3⟩ := hR11
    obtain ⟨n0, n1', -, -⟩ := hn11
    obtain ⟨d0, d1, -, -⟩ := hd11
    go_wp2
    generalize (w9.alloc (.cells #[.bool s9, .slice p9 n9 n9] 24)).alloc (.cells #[.bool s10, .slice p10 n10 n10] 24) = W11 at *
    refine bodyPost_ret (v := .agg #[.bool s6, .slice p6 n6 n6, .bool s9, .slice p9 n9 n9]) (by simp [results, Tryd.results25, go_sem, r0, r1, r2, r3]) rfl ⟨_, _, _, z6, _, _, _, z9, rfl, ⟨?_, ?_⟩, ?_⟩
    · exact (hM11.set4 sR _ _ _ _).mono (by omega)
    · exact (hE11.set4 sR _ _ _ _).mono (by omega)
    · exact bset4 hW11 (by omega) _ _ _ _
end Go.Proofs.YtongkalfdgleaaaDoor
/-
  rat.Norm, and what the functions of two rationals share.
-/
namespace Go.Proofs.YtongkalfdgleaaaDoor
open Go.RowKit
set_option linter.unusedVariables false
set_option linter.unusedSimpArgs false

theorem Bq_set {w : World} {g : Nat} {a0 a1 a2 a3 u v x y : Value} (h : Bq w g a0 a1 a2 a3) : Bq ((((w.setCell ⟨g, 0, none⟩ u).setCell ⟨g, 1, none⟩ v).setCell ⟨g, 2, none⟩ x).setCell ⟨g, 3, none⟩ y) g u v x y := by
  obtain ⟨c0, c1, c2, c3, f0, f1, f2, f3⟩ := h
  have e0 := World.cell?_setCell_same w ⟨g, 0, none⟩ u c0
  have e1 : (w.setCell ⟨g, 0, none⟩ u).cell? ⟨g, 1, none⟩ = some a1 := by rw [World.cell?_setCell_other _ _ _ _ (by simp)]; exact c1
  have e2 : ((w.setCell ⟨g, 0, none⟩ u).setCell ⟨g, 1, none⟩ v).cell? ⟨g, 2, none⟩ = some a2 := by rw [World.cell?_setCell_other _ _ _ _ (by simp), World.cell?_setCell_other _ _ _ _ (by simp)]; exact c2
  have e3 : (((w.setCell ⟨g, 0, none⟩ u).setCell ⟨g, 1, none⟩ v).setCell ⟨g, 2, none⟩ x).cell? ⟨g, 3, none⟩ = some a3 := by rw [World.cell?_setCell_other _ _ _ _ (by simp), World.cell?_setCell_other _ _ _ _ (by simp), World.cell?_setCell_other _ _ _ _ (by simp)]; exact c3
  refine ⟨?_, ?_, ?_, World.cell?_setCell_same _ _ _ e3, ?_, ?_, ?_, ?_⟩
  · rw [World.cell?_setCell_other _ _ _ _ (by simp), World.cell?_setCell_other _ _ _ _ (by simp), World.cell?_setCell_other _ _ _ _ (by simp)]; exact e0
  · rw [World.cell?_setCell_other _ _ _ _ (by simp), World.cell?_setCell_other _ _ _ _ (by simp)]; exact World.cell?_setCell_same _ _ _ e1
  · rw [World.cell?_setCell_other _ _ _ _ (by simp)]; exact World.cell?_setCell_same _ _ _ e2
  all_goals (rw [World.frozen?_setCell, World.frozen?_setCell, World.frozen?_setCell, World.frozen?_setCell]; assumption)
theorem Bq_oth {w : World} {r g : Nat} {a0 a1 a2 a3 u v x y : Value} (h : Bq w r a0 a1 a2 a3) (hne : r ≠ g) : Bq ((((w.setCell ⟨g, 0, none⟩ u).setCell ⟨g, 1, none⟩ v).setCell ⟨g, 2, none⟩ x).setCell ⟨g, 3, none⟩ y) r a0 a1 a2 a3 := by
  have e : ((((w.setCell ⟨g, 0, none⟩ u).setCell ⟨g, 1, none⟩ v).setCell ⟨g, 2, none⟩ x).setCell ⟨g, 3, none⟩ y).heap[r]? = w.heap[r]? := (heap_setCell_other _ _ r y hne).trans ((heap_setCell_other _ _ r x hne).trans ((heap_setCell_other _ _ r v hne).trans (heap_setCell_other _ _ r u hne)))
  exact ⟨(World.cell?_of_block (a := ⟨r, 0, none⟩) e).trans h.c0, (World.cell?_of_block (a := ⟨r, 1, none⟩) e).trans h.c1, (World.cell?_of_block (a := ⟨r, 2, none⟩) e).trans h.c2, (World.cell?_of_block (a := ⟨r, 3, none⟩) e).trans h.c3, (World.frozen?_of_block (a := ⟨r, 0, none⟩) e).trans h.f0, (World.frozen?_of_block (a := ⟨r, 1, none⟩) e).trans h.f1, (World.frozen?_of_block (a := ⟨r, 2, none⟩) e).trans h.f2, (World.frozen?_of_block (a := ⟨r, 3, none⟩) e).trans h.f3⟩
/-- The end of a function that hands on a rational that a callee has answered. -/
theorem end_nr {w W w1 : World} {r : Nat} {s : Bool} {p : Option Addr} {n : Nat} {xs : List Int} {t : Bool} {q : Option Addr} {m : Nat} {ys : List Int} {z : Rat} {u v x y : Value} (hw : Below w.heap.size w W) (hr : w.heap.size ≤ r) (hr' : r < W.heap.size)
    (hN : NR W.heap.size w1 s p n xs t q m ys z) (hb : Below W.heap.size W w1) :
    NrPost z w (.returned (.agg #[.bool s, .slice p n n, .bool t, .slice q m m])) ((((w1.setCell ⟨r, 0, none⟩ u).setCell ⟨r, 1, none⟩ v).setCell ⟨r, 2, none⟩ x).setCell ⟨r, 3, none⟩ y) :=
  ⟨_, _, _, xs, _, _, _, ys, rfl, ⟨(hN.num.set4 hr' _ _ _ _).mono hw.size, (hN.den.set4 hr' _ _ _ _).mono hw.size⟩, bset4 (bnext' hw hb) hr _ _ _ _⟩
set_option maxRecDepth 100000 in
set_option maxHeartbeats 2000000 in
/-- rat.Norm. -/
theorem Norm_any (s t : Bool) (p q : Option Addr) (n nc m mc : Nat) (xs ys : List Int) (w : World) (hA : AI w p n nc xs) (hB : AI w q m mc ys) (hn : n < 80) (hm : m < 80) :
    Calls Tryd.prog 34 #[.agg #[.bool s, .slice p n nc, .bool t, .slice q m mc]] w (NrPost (Rat.divInt (ival s xs) (ival t ys)) w) := by
  generalize hQ : Rat.divInt (ival s xs) (ival t ys) = Q
  have HQ : Hid (Rat.divInt (ival s xs) (ival t ys) = Q) := hQ
  clear hQ
  go_enter Tryd.func34, Tryd.ntmps34
  go_wp2_with fail
  have hA0 : Bq ((w.alloc (.cells #[.bool s, .slice p n nc, .bool t, .slice q m mc] 26)).alloc (.cells #[.bool false, .slice none 0 0, .bool false, .slice none 0 0] 26)) w.heap.size (.bool s) (.slice p n nc) (.bool t) (.slice q m mc) := (Bq.new _ _ _ _ _ rfl).alloc _
  have hR : Bq ((w.alloc (.cells #[.bool s, .slice p n nc, .bool t, .slice q m mc] 26)).alloc (.cells #[.bool false, .slice none 0 0, .bool false, .slice none 0 0] 26)) (w.heap.size + 1) (.bool false) (.slice none 0 0) (.bool false) (.slice none 0 0) := Bq.new _ _ _ _ _ (by simp)
  have hW : Below w.heap.size w ((w.alloc (.cells #[.bool s, .slice p n nc, .bool t, .slice q m mc] 26)).alloc (.cells #[.bool false, .slice none 0 0, .bool false, .slice none 0 0] 26)) := ((Below.refl _ _).alloc (Nat.le_refl _) _).alloc (by simp) _
  generalize (w.alloc (.cells #[.bool s, .slice p n nc, .bool t, .slice q m mc] 26)).alloc (.cells #[.bool false, .slice none 0 0, .bool false, .slice none 0 0] 26) = W at *
  have hs := hR.lt
  refine (upright_any s t p q n nc m mc xs ys _ (hA.below hW) (hB.below hW) 79 (by omega) (by omega) (by omega)).mono ?_
  rintro e w1 ⟨s1, p1, n1, nc1, x1, t1, q1, m1, mc1, y1, rfl, hA1, hB1, hp, hv, hn1, hm1, hof, hb1⟩
  have ho := hof w.heap.size (by omega) (hA.off (Nat.le_refl _)) (hB.off (Nat.le_refl _))
  have hA2 := hA1.set4 ho.1 (.bool s1) (.slice p1 n1 nc1) (.bool t1) (.slice q1 m1 mc1)
  have hB2 := hB1.set4 ho.2 (.bool s1) (.slice p1 n1 nc1) (.bool t1) (.slice q1 m1 mc1)
  have hBa := Bq_set (u := .bool s1) (v := .slice p1 n1 nc1) (x := .bool t1) (y := .slice q1 m1 mc1) (hA0.later hb1)
  have hBr := Bq_oth (g := w.heap.size) (u := .bool s1) (v := .slice p1 n1 nc1) (x := .bool t1) (y := .slice q1 m1 mc1) (hR.later hb1) (by omega)
  have hW2 := bset4 (g := w.heap.size) (bnext' hW hb1) (Nat.le_refl _) (.bool s1) (.slice p1 n1 nc1) (.bool t1) (.slice q1 m1 mc1)
  obtain ⟨a0, a1, a2, a3, f0, f1, f2, f3⟩ := hA0.later hb1
  obtain ⟨c0, c1, c2, c3, -, -, -, -⟩ := hBa
  clear hof ho hA0 hR hA1 hB1 hW
  have HV : Hid (Rat.divInt (ival s1 x1) (ival t1 y1) = Q) := hv.trans HQ.out
  clear hv
  go_wp2_with fail
  generalize (((w1.setCell ⟨w.heap.size, 0, none⟩ (.bool s1)).setCell ⟨w.heap.size, 1, none⟩ (.slice p1 n1 nc1)).setCell ⟨w.heap.size, 2, none⟩ (.bool t1)).setCell ⟨w.heap.size, 3, none⟩ (.slice q1 m1 mc1) = W2 at *
  have h3 := lowest_any s1 t1 p1 q1 n1 nc1 m1 mc1 x1 y1 W2 hA2 hB2 (by omega) (by omega) (by omega)
  rw [HV.out] at h3
  refine h3.mono ?_
  rintro e w3 ⟨s3, p3, n3, x3, t3, q3, m3, y3, rfl, hN3, hb3⟩
  have hs2 := hBr.lt
  clear c0 c1 c2 c3 a0 a1 a2 a3 f0 f1 f2 f3
  obtain ⟨r0, r1, r2, r3, f0, f1, f2, f3⟩ := hBr.later hb3
  go_wp2
  exact bodyPost_ret (v := .agg #[.bool s3, .slice p3 n3 n3, .bool t3, .slice q3 m3 m3]) (by simp [results, Tryd.results34, go_sem, r0, r1, r2, r3]) rfl (end_nr hW2 (by omega) hs2 hN3 hb3)
end Go.Proofs.YtongkalfdgleaaaDoor
/-
  rat.Mul, Cmp, and what the functions of two rationals share.
-/
namespace Go.Proofs.YtongkalfdgleaaaDoor
open Go.RowKit
set_option linter.unusedVariables false
set_option linter.unusedSimpArgs false

/-- Two rationals in variables, both with a Den above 0. -/
structure U2 (w wc : World) (Ka Kb : Nat) (Qa Qb : Rat) (sa ta sb tb : Bool) (pa qa pb qb : Option Addr) (na nac ma mac nb nbc mb mbc : Nat) (xa ya xb yb : List Int) : Prop where
  a : Bq wc w.heap.size (.bool sa) (.slice pa na nac) (.bool ta) (.slice qa ma mac)
  b : Bq wc (w.heap.size + 1) (.bool sb) (.slice pb nb nbc) (.bool tb) (.slice qb mb mbc)
  an : AI wc pa na nac xa
  ad : AI wc qa ma mac ya
  bn : AI wc pb nb nbc xb
  bd : AI wc qb mb mbc yb
  ap : 0 < ival ta ya
  bp : 0 < ival tb yb
  va : Rat.divInt (ival sa xa) (ival ta ya) = Qa
  vb : Rat.divInt (ival sb xb) (ival tb yb) = Qb
  la : na ≤ Ka
  la' : ma ≤ Ka
  lb : nb ≤ Kb
  lb' : mb ≤ Kb
  bel : Below w.heap.size w wc
theorem U2.later {w wc w' : World} {Ka Kb : Nat} {Qa Qb : Rat} {sa ta sb tb : Bool} {pa qa pb qb : Option Addr} {na nac ma mac nb nbc mb mbc : Nat} {xa ya xb yb : List Int} (h : U2 w wc Ka Kb Qa Qb sa ta sb tb pa qa pb qb na nac ma mac nb nbc mb mbc xa ya xb yb) (hb : Below wc.heap.size wc w') : U2 w w' Ka Kb Qa Qb sa ta sb tb pa qa pb qb na nac ma mac nb nbc mb mbc xa ya xb yb :=
  ⟨h.a.later hb, h.b.later hb, h.an.below hb, h.ad.below hb, h.bn.below hb, h.bd.below hb, h.ap, h.bp, h.va, h.vb, h.la, h.la', h.lb, h.lb', bnext' h.bel hb⟩
theorem keepq {w1 w2 : World} {a b c d e f g h : Addr} {u v x y z t r s : Value} (k : w1.cell? a = some u ∧ w1.cell? b = some v ∧ w1.cell? c = some x ∧ w1.cell? d = some y ∧ w1.cell? e = some z ∧ w1.cell? f = some t ∧ w1.cell? g = some r ∧ w1.cell? h = some s) (hb : Below w1.heap.size w1 w2) :
    w2.cell? a = some u ∧ w2.cell? b = some v ∧ w2.cell? c = some x ∧ w2.cell? d = some y ∧ w2.cell? e = some z ∧ w2.cell? f = some t ∧ w2.cell? g = some r ∧ w2.cell? h = some s :=
  ⟨cell_later hb k.1, cell_later hb k.2.1, cell_later hb k.2.2.1, cell_later hb k.2.2.2.1, cell_later hb k.2.2.2.2.1, cell_later hb k.2.2.2.2.2.1, cell_later hb k.2.2.2.2.2.2.1, cell_later hb k.2.2.2.2.2.2.2⟩
theorem prod_bd {a b : Int} {i j : Nat} (h : (a.natAbs : Int) < pw i) (k : (b.natAbs : Int) < pw j) : ((a * b).natAbs : Int) < pw (i + j) := by
  rw [Int.natAbs_mul, pw_add]
  push_cast
  have h1 := pw_pos i
  have h2 := pw_pos j
  have h3 : (a.natAbs : Int) * (b.natAbs : Int) ≤ (a.natAbs : Int) * pw j := Int.mul_le_mul_of_nonneg_left (by omega) (by omega)
  have h4 : (a.natAbs : Int) * pw j < pw i * pw j := Int.mul_lt_mul_of_pos_right h h2
  omega
theorem icmp_mul {x y k : Int} (hk : 0 < k) : icmp (x * k) (y * k) = icmp x y := by
  unfold icmp
  simp only [Int.mul_lt_mul_right hk]
theorem icmp_cross {a b c d : Int} (hb : 0 < b) (hd : 0 < d) : icmp (a * d) (c * b) = icmp ((Rat.divInt a b).num * (Rat.divInt c d).den) ((Rat.divInt c d).num * (Rat.divInt a b).den) := by
  obtain ⟨g, hg, g0, h1, h2⟩ := rat_low a b (by omega)
  obtain ⟨h, hh, h0, h3, h4⟩ := rat_low c d (by omega)
  rw [if_neg (by omega)] at hg hh
  have hk : 0 < g * h := Int.mul_pos (by omega) (by omega)
  rw [← icmp_mul hk (x := (Rat.divInt a b).num * (Rat.divInt c d).den)]
  congr 1
  · conv => lhs; rw [h1, h4]
    simp only [Int.mul_assoc, Int.mul_comm, Int.mul_left_comm]
  · conv => lhs; rw [h3, h2]
    simp only [Int.mul_assoc, Int.mul_comm, Int.mul_left_comm]
theorem NR.of {B : Nat} {w : World} {r r' : Rat} {s : Bool} {p : Option Addr} {n : Nat} {xs : List Int} {t : Bool} {q : Option Addr} {m : Nat} {ys : List Int} (h : NR B w s p n xs t q m ys r) (e : r = r') : NR B w s p n xs t q m ys r' := e ▸ h
set_option maxRecDepth 100000 in
set_option maxHeartbeats 4000000 in
/-- rat.Mul. -/
theorem qMul_any (sa ta sb tb : Bool) (pa qa pb qb : Option Addr) (na nac ma mac nb nbc mb mbc : Nat) (xa ya xb yb : List Int) (w : World) (hA : AI w pa na nac xa) (hA' : AI w qa ma mac ya) (hB : AI w pb nb nbc xb) (hB' : AI w qb mb mbc yb) (Ka Kb : Nat) (hKa : 1 ≤ Ka) (hKb : 1 ≤ Kb) (hK : Ka + Kb + 1 ≤ 80) (la : na ≤ Ka) (la' : ma ≤ Ka) (lb : nb ≤ Kb) (lb' : mb ≤ Kb) :
    Calls Tryd.prog 8 #[.agg #[.bool sa, .slice pa na nac, .bool ta, .slice qa ma mac], .agg #[.bool sb, .slice pb nb nbc, .bool tb, .slice qb mb mbc]] w (NrPost (Rat.divInt (ival sa xa) (ival ta ya) * Rat.divInt (ival sb xb) (ival tb yb)) w) := by
  generalize hQa : Rat.divInt (ival sa xa) (ival ta ya) = Qa
  generalize hQb : Rat.divInt (ival sb xb) (ival tb yb) = Qb
  have HQa : Hid (Rat.divInt (ival sa xa) (ival ta ya) = Qa) := hQa
  have HQb : Hid (Rat.divInt (ival sb xb) (ival tb yb) = Qb) := hQb
  clear hQa hQb
  go_enter Tryd.func8, Tryd.ntmps8
  go_wp2_with fail
  have hA0 : Bq (((w.alloc (.cells #[.bool sa, .slice pa na nac, .bool ta, .slice qa ma mac] 26)).alloc (.cells #[.bool sb, .slice pb nb nbc, .bool tb, .slice qb mb mbc] 26)).alloc (.cells #[.bool false, .slice none 0 0, .bool false, .slice none 0 0] 26)) w.heap.size (.bool sa) (.slice pa na nac) (.bool ta) (.slice qa ma mac) := ((Bq.new _ _ _ _ _ rfl).alloc _).alloc _
  have hB0 : Bq (((w.alloc (.cells #[.bool sa, .slice pa na nac, .bool ta, .slice qa ma mac] 26)).alloc (.cells #[.bool sb, .slice pb nb nbc, .bool tb, .slice qb mb mbc] 26)).alloc (.cells #[.bool false, .slice none 0 0, .bool false, .slice none 0 0] 26)) (w.heap.size + 1) (.bool sb) (.slice pb nb nbc) (.bool tb) (.slice qb mb mbc) := (Bq.new _ _ _ _ _ (by simp)).alloc _
  have hR0 : Bq (((w.alloc (.cells #[.bool sa, .slice pa na nac, .bool ta, .slice qa ma mac] 26)).alloc (.cells #[.bool sb, .slice pb nb nbc, .bool tb, .slice qb mb mbc] 26)).alloc (.cells #[.bool false, .slice none 0 0, .bool false, .slice none 0 0] 26)) (w.heap.size + 1 + 1) (.bool false) (.slice none 0 0) (.bool false) (.slice none 0 0) := Bq.new _ _ _ _ _ (by simp)
  have hW : Below w.heap.size w (((w.alloc (.cells #[.bool sa, .slice pa na nac, .bool ta, .slice qa ma mac] 26)).alloc (.cells #[.bool sb, .slice pb nb nbc, .bool tb, .slice qb mb mbc] 26)).alloc (.cells #[.bool false, .slice none 0 0, .bool false, .slice none 0 0] 26)) := (((Below.refl _ _).alloc (Nat.le_refl _) _).alloc (by simp) _).alloc (by simp; omega) _
  generalize ((w.alloc (.cells #[.bool sa, .slice pa na nac, .bool ta, .slice qa ma mac] 26)).alloc (.cells #[.bool sb, .slice pb nb nbc, .bool tb, .slice qb mb mbc] 26)).alloc (.cells #[.bool false, .slice none 0 0, .bool false, .slice none 0 0] 26) = W at *
  go_cut [] (fun wc => ∃ sa' ta' sb' tb' pa' qa' pb' qb' na' nac' ma' mac' nb' nbc' mb' mbc' xa' ya' xb' yb', U2 w wc Ka Kb Qa Qb sa' ta' sb' tb' pa' qa' pb' qb' na' nac' ma' mac' nb' nbc' mb' mbc' xa' ya' xb' yb' ∧ Bq wc (w.heap.size + 1 + 1) (.bool false) (.slice none 0 0) (.bool false) (.slice none 0 0))
  case first =>
    have a0 := hA0.c0
    have a1 := hA0.c1
    have a2 := hA0.c2
    have a3 := hA0.c3
    have b0 := hB0.c0
    have b1 := hB0.c1
    have b2 := hB0.c2
    have b3 := hB0.c3
    go_region_with (first
      | (go_at_call_of 22 (Value.agg #[.bool sa, .slice pa na nac, .bool ta, .slice qa ma mac]); refine (upright_any sa ta pa qa na nac ma mac xa ya _ (hA.below hW).drew (hA'.below hW).drew Ka hKa la la').mono ?_; rintro e w1 ⟨sa', pa', na', nac', xa', ta', qa', ma', mac', ya', rfl, hX1, hX2, hp1, hv1, l1, l2, hof1, hb1⟩; have hA1 := hA0.later (undrew hb1); have hB1 := hB0.later (undrew hb1); have b10 := hB1.c0; have b11 := hB1.c1; have b12 := hB1.c2; have b13 := hB1.c3)
      | (go_at_call_of 22 (Value.agg #[.bool sb, .slice pb nb nbc, .bool tb, .slice qb mb mbc]); refine (upright_any sb tb pb qb nb nbc mb mbc xb yb _ ((hB.below hW).drew.below hb1) ((hB'.below hW).drew.below hb1) Kb hKb lb lb').mono ?_; rintro e w2 ⟨sb', pb', nb', nbc', xb', tb', qb', mb', mbc', yb', rfl, hY1, hY2, hp2, hv2, l3, l4, hof2, hb2⟩; have hA2 := hA1.later hb2; have hB2 := hB1.later hb2; obtain ⟨a20, a21, a22, a23, af0, af1, af2, af3⟩ := hA2; obtain ⟨b20, b21, b22, b23, bf0, bf1, bf2, bf3⟩ := hB2))
    all_goals (go_wp2_with fail; go_meet)
    all_goals
      have sA := hA0.lt
      have sB := hB0.lt
      have s1 : W.heap.size ≤ w1.heap.size := hb1.size
      have s2 := hb2.size
      have oa := hof1 w.heap.size sA (hA.off (Nat.le_refl _)) (hA'.off (Nat.le_refl _))
      have oa' := hof1 (w.heap.size + 1) sB (hA.off (Nat.le_succ _)) (hA'.off (Nat.le_succ _))
      have ob := hof2 w.heap.size (by omega) (hB.off (Nat.le_refl _)) (hB'.off (Nat.le_refl _))
      have ob' := hof2 (w.heap.size + 1) (by omega) (hB.off (Nat.le_succ _)) (hB'.off (Nat.le_succ _))
      refine ⟨sa', ta', sb', tb', pa', qa', pb', qb', na', nac', ma', mac', nb', nbc', mb', mbc', xa', ya', xb', yb', ⟨⟨?_, ?_, ?_, ?_, ?_, ?_, hp1, hp2, hv1.trans HQa.out, hv2.trans HQb.out, l1, l2, l3, l4, ?_⟩, ?_⟩⟩
      · exact Bq_oth (Bq_set ((hA0.later (undrew hb1)).later hb2)) (by omega)
      · exact Bq_set (Bq_oth ((hB0.later (undrew hb1)).later hb2) (by omega))
      · exact ((hX1.below hb2).set4 oa.1 _ _ _ _).set4 oa'.1 _ _ _ _
      · exact ((hX2.below hb2).set4 oa.2 _ _ _ _).set4 oa'.2 _ _ _ _
      · exact (hY1.set4 ob.1 _ _ _ _).set4 ob'.1 _ _ _ _
      · exact (hY2.set4 ob.2 _ _ _ _).set4 ob'.2 _ _ _ _
      · exact bset4 (bset4 (bnext' (bnext' hW (undrew hb1)) hb2) (by omega) _ _ _ _) (by omega) _ _ _ _
      · exact Bq_oth (Bq_oth ((hR0.later (undrew hb1)).later hb2) (by omega)) (by omega)
  case rest =>
    obtain ⟨sa', ta', sb', tb', pa', qa', pb', qb', na', nac', ma', mac', nb', nbc', mb', mbc', xa', ya', xb', yb', hU, hR⟩ := hcut
    clear hA0 hB0 hR0 hW la la' lb lb' hA hA' hB hB'
    have la := hU.la
    have la' := hU.la'
    have lb := hU.lb
    have lb' := hU.lb'
    have HVa : Hid (Rat.divInt (ival sa' xa') (ival ta' ya') = Qa ∧ 0 < ival ta' ya') := ⟨hU.va, hU.ap⟩
    have HVb : Hid (Rat.divInt (ival sb' xb') (ival tb' yb') = Qb ∧ 0 < ival tb' yb') := ⟨hU.vb, hU.bp⟩
    have a0 := hU.a.c0
    have a1 := hU.a.c1
    have a2 := hU.a.c2
    have a3 := hU.a.c3
    have b0 := hU.b.c0
    have b1 := hU.b.c1
    have b2 := hU.b.c2
    have b3 := hU.b.c3
    go_wp2_with fail
    go_region_held3 (fun w' => w'.cell? ⟨w.heap.size, 0, none⟩ = some (.bool sa') ∧ w'.cell? ⟨w.heap.size, 1, none⟩ = some (.slice pa' na' nac') ∧ w'.cell? ⟨w.heap.size, 2, none⟩ = some (.bool ta') ∧ w'.cell? ⟨w.heap.size, 3, none⟩ = some (.slice qa' ma' mac') ∧ w'.cell? ⟨w.heap.size + 1, 0, none⟩ = some (.bool sb') ∧ w'.cell? ⟨w.heap.size + 1, 1, none⟩ = some (.slice pb' nb' nbc') ∧ w'.cell? ⟨w.heap.size + 1, 2, none⟩ = some (.bool tb') ∧ w'.cell? ⟨w.heap.size + 1, 3, none⟩ = some (.slice qb' mb' mbc')) (first | with_reducible exact ⟨a0, a1, a2, a3, b0, b1, b2, b3⟩ | with_reducible exact keepq ⟨a0, a1, a2, a3, b0, b1, b2, b3⟩ (hV1) | with_reducible exact keepq ⟨a0, a1, a2, a3, b0, b1, b2, b3⟩ (hV2) | with_reducible exact keepq ⟨a0, a1, a2, a3, b0, b1, b2, b3⟩ (hV3) | (simp [go_sem, *]; done))
      (first
        | (go_at_call_of 24 (Value.agg #[.bool sa', .slice pa' na' nac']); go_at_call_of 24 (Value.agg #[.bool sb', .slice pb' nb' nbc']); refine (Mul_small sa' sb' pa' pb' na' nac' nb' nbc' xa' xb' _ hU.an.drew hU.bn.drew (.inl (by omega))).mono ?_; rintro e v1 ⟨s1, p1, n1, z1, rfl, hN1, hn1, hv1⟩; have hV1 := undrew hv1)
        | (go_at_call_of 24 (Value.agg #[.bool ta', .slice qa' ma' mac']); go_at_call_of 24 (Value.agg #[.bool tb', .slice qb' mb' mbc']); refine (Mul_small ta' tb' qa' qb' ma' mac' mb' mbc' ya' yb' _ (hU.ad.below hV1) (hU.bd.below hV1) (.inl (by omega))).mono ?_; rintro e v2 ⟨s2, p2, n2, z2, rfl, hN2, hn2, hv2⟩; have hV2 := bnext' hV1 hv2)
        | (go_at_call 25; refine (lowest_any s1 s2 p1 p2 n1 n1 n2 n2 z1 z2 _ ((hN1.below hv2).ai (by omega)) (hN2.ai (by omega)) (by rw [hN2.v]; have := Int.mul_pos HVa.out.2 HVb.out.2; omega) (by omega) (by omega)).mono ?_; rintro e v3 ⟨s3, p3, n3, x3, t3, q3, m3, y3, rfl, hN3, hv3⟩; have hV3 := bnext' hV2 hv3; have hR3 := (hR.later hV2).later hv3; obtain ⟨r0, r1, r2, r3, f0, f1, f2, f3⟩ := hR3))
    have HE : Rat.divInt (ival s1 z1) (ival s2 z2) = Qa * Qb := by
      rw [hN1.v, hN2.v, ← HVa.out.1, ← HVb.out.1, Rat.divInt_mul_divInt]
    clear a0 a1 a2 a3 b0 b1 b2 b3
    go_wp2
    exact bodyPost_ret (v := .agg #[.bool s3, .slice p3 n3 n3, .bool t3, .slice q3 m3 m3]) (by simp [results, Tryd.results8, go_sem, r0, r1, r2, r3]) rfl (end_nr (hU.bel.trans (hV2.mono hU.bel.size)) (by omega) (by have := hR.lt; have := hV2.size; omega) (hN3.of HE) hv3)
set_option maxRecDepth 100000 in
set_option maxHeartbeats 4000000 in
/-- rat.Cmp. -/
theorem qCmp_any (sa ta sb tb : Bool) (pa qa pb qb : Option Addr) (na nac ma mac nb nbc mb mbc : Nat) (xa ya xb yb : List Int) (w : World) (hA : AI w pa na nac xa) (hA' : AI w qa ma mac ya) (hB : AI w pb nb nbc xb) (hB' : AI w qb mb mbc yb) (Ka Kb : Nat) (hKa : 1 ≤ Ka) (hKb : 1 ≤ Kb) (hK : Ka < 80 ∧ Kb ≤ 1000) (la : na ≤ Ka) (la' : ma ≤ Ka) (lb : nb ≤ Kb) (lb' : mb ≤ Kb) :
    Calls Tryd.prog 7 #[.agg #[.bool sa, .slice pa na nac, .bool ta, .slice qa ma mac], .agg #[.bool sb, .slice pb nb nbc, .bool tb, .slice qb mb mbc]] w (fun e w' => e = .returned (.int .i64 (icmp ((Rat.divInt (ival sa xa) (ival ta ya)).num * (Rat.divInt (ival sb xb) (ival tb yb)).den) ((Rat.divInt (ival sb xb) (ival tb yb)).num * (Rat.divInt (ival sa xa) (ival ta ya)).den))) ∧ Below w.heap.size w w') := by
  generalize hQa : Rat.divInt (ival sa xa) (ival ta ya) = Qa
  generalize hQb : Rat.divInt (ival sb xb) (ival tb yb) = Qb
  have HQa : Hid (Rat.divInt (ival sa xa) (ival ta ya) = Qa) := hQa
  have HQb : Hid (Rat.divInt (ival sb xb) (ival tb yb) = Qb) := hQb
  clear hQa hQb
  go_enter Tryd.func7, Tryd.ntmps7
  go_wp2_with fail
  have hA0 : Bq ((w.alloc (.cells #[.bool sa, .slice pa na nac, .bool ta, .slice qa ma mac] 26)).alloc (.cells #[.bool sb, .slice pb nb nbc, .bool tb, .slice qb mb mbc] 26)) w.heap.size (.bool sa) (.slice pa na nac) (.bool ta) (.slice qa ma mac) := (Bq.new _ _ _ _ _ rfl).alloc _
  have hB0 : Bq ((w.alloc (.cells #[.bool sa, .slice pa na nac, .bool ta, .slice qa ma mac] 26)).alloc (.cells #[.bool sb, .slice pb nb nbc, .bool tb, .slice qb mb mbc] 26)) (w.heap.size + 1) (.bool sb) (.slice pb nb nbc) (.bool tb) (.slice qb mb mbc) := Bq.new _ _ _ _ _ (by simp)
  have hW : Below w.heap.size w ((w.alloc (.cells #[.bool sa, .slice pa na nac, .bool ta, .slice qa ma mac] 26)).alloc (.cells #[.bool sb, .slice pb nb nbc, .bool tb, .slice qb mb mbc] 26)) := ((Below.refl _ _).alloc (Nat.le_refl _) _).alloc (by simp) _
  generalize (w.alloc (.cells #[.bool sa, .slice pa na nac, .bool ta, .slice qa ma mac] 26)).alloc (.cells #[.bool sb, .slice pb nb nbc, .bool tb, .slice qb mb mbc] 26) = W at *
  go_cut [] (fun wc => ∃ sa' ta' sb' tb' pa' qa' pb' qb' na' nac' ma' mac' nb' nbc' mb' mbc' xa' ya' xb' yb', U2 w wc Ka Kb Qa Qb sa' ta' sb' tb' pa' qa' pb' qb' na' nac' ma' mac' nb' nbc' mb' mbc' xa' ya' xb' yb')
  case first =>
    have a0 := hA0.c0
    have a1 := hA0.c1
    have a2 := hA0.c2
    have a3 := hA0.c3
    have b0 := hB0.c0
    have b1 := hB0.c1
    have b2 := hB0.c2
    have b3 := hB0.c3
    go_region_with (first
      | (go_at_call_of 22 (Value.agg #[.bool sa, .slice pa na nac, .bool ta, .slice qa ma mac]); refine (upright_any sa ta pa qa na nac ma mac xa ya _ (hA.below hW).drew (hA'.below hW).drew Ka hKa la la').mono ?_; rintro e w1 ⟨sa', pa', na', nac', xa', ta', qa', ma', mac', ya', rfl, hX1, hX2, hp1, hv1, l1, l2, hof1, hb1⟩; have hA1 := hA0.later (undrew hb1); have hB1 := hB0.later (undrew hb1); have b10 := hB1.c0; have b11 := hB1.c1; have b12 := hB1.c2; have b13 := hB1.c3)
      | (go_at_call_of 22 (Value.agg #[.bool sb, .slice pb nb nbc, .bool tb, .slice qb mb mbc]); refine (upright_any sb tb pb qb nb nbc mb mbc xb yb _ ((hB.below hW).drew.below hb1) ((hB'.below hW).drew.below hb1) Kb hKb lb lb').mono ?_; rintro e w2 ⟨sb', pb', nb', nbc', xb', tb', qb', mb', mbc', yb', rfl, hY1, hY2, hp2, hv2, l3, l4, hof2, hb2⟩; have hA2 := hA1.later hb2; have hB2 := hB1.later hb2; obtain ⟨a20, a21, a22, a23, af0, af1, af2, af3⟩ := hA2; obtain ⟨b20, b21, b22, b23, bf0, bf1, bf2, bf3⟩ := hB2))
    all_goals (go_wp2_with fail; go_meet)
    all_goals
      have sA := hA0.lt
      have sB := hB0.lt
      have s1 : W.heap.size ≤ w1.heap.size := hb1.size
      have s2 := hb2.size
      have oa := hof1 w.heap.size sA (hA.off (Nat.le_refl _)) (hA'.off (Nat.le_refl _))
      have oa' := hof1 (w.heap.size + 1) sB (hA.off (Nat.le_succ _)) (hA'.off (Nat.le_succ _))
      have ob := hof2 w.heap.size (by omega) (hB.off (Nat.le_refl _)) (hB'.off (Nat.le_refl _))
      have ob' := hof2 (w.heap.size + 1) (by omega) (hB.off (Nat.le_succ _)) (hB'.off (Nat.le_succ _))
      refine ⟨sa', ta', sb', tb', pa', qa', pb', qb', na', nac', ma', mac', nb', nbc', mb', mbc', xa', ya', xb', yb', ⟨?_, ?_, ?_, ?_, ?_, ?_, hp1, hp2, hv1.trans HQa.out, hv2.trans HQb.out, l1, l2, l3, l4, ?_⟩⟩
      · exact Bq_oth (Bq_set ((hA0.later (undrew hb1)).later hb2)) (by omega)
      · exact Bq_set (Bq_oth ((hB0.later (undrew hb1)).later hb2) (by omega))
      · exact ((hX1.below hb2).set4 oa.1 _ _ _ _).set4 oa'.1 _ _ _ _
      · exact ((hX2.below hb2).set4 oa.2 _ _ _ _).set4 oa'.2 _ _ _ _
      · exact (hY1.set4 ob.1 _ _ _ _).set4 ob'.1 _ _ _ _
      · exact (hY2.set4 ob.2 _ _ _ _).set4 ob'.2 _ _ _ _
      · exact bset4 (bset4 (bnext' (bnext' hW (undrew hb1)) hb2) (by omega) _ _ _ _) (by omega) _ _ _ _
  case rest =>
    obtain ⟨sa', ta', sb', tb', pa', qa', pb', qb', na', nac', ma', mac', nb', nbc', mb', mbc', xa', ya', xb', yb', hU⟩ := hcut
    clear hA0 hB0 hW la la' lb lb' hA hA' hB hB'
    have la := hU.la
    have la' := hU.la'
    have lb := hU.lb
    have lb' := hU.lb'
    have HVa : Hid (Rat.divInt (ival sa' xa') (ival ta' ya') = Qa ∧ 0 < ival ta' ya') := ⟨hU.va, hU.ap⟩
    have HVb : Hid (Rat.divInt (ival sb' xb') (ival tb' yb') = Qb ∧ 0 < ival tb' yb') := ⟨hU.vb, hU.bp⟩
    have a0 := hU.a.c0
    have a1 := hU.a.c1
    have a2 := hU.a.c2
    have a3 := hU.a.c3
    have b0 := hU.b.c0
    have b1 := hU.b.c1
    have b2 := hU.b.c2
    have b3 := hU.b.c3
    go_wp2_with fail
    go_region_held3 (fun w' => w'.cell? ⟨w.heap.size, 0, none⟩ = some (.bool sa') ∧ w'.cell? ⟨w.heap.size, 1, none⟩ = some (.slice pa' na' nac') ∧ w'.cell? ⟨w.heap.size, 2, none⟩ = some (.bool ta') ∧ w'.cell? ⟨w.heap.size, 3, none⟩ = some (.slice qa' ma' mac') ∧ w'.cell? ⟨w.heap.size + 1, 0, none⟩ = some (.bool sb') ∧ w'.cell? ⟨w.heap.size + 1, 1, none⟩ = some (.slice pb' nb' nbc') ∧ w'.cell? ⟨w.heap.size + 1, 2, none⟩ = some (.bool tb') ∧ w'.cell? ⟨w.heap.size + 1, 3, none⟩ = some (.slice qb' mb' mbc')) (first | with_reducible exact ⟨a0, a1, a2, a3, b0, b1, b2, b3⟩ | with_reducible exact keepq ⟨a0, a1, a2, a3, b0, b1, b2, b3⟩ (hV1) | with_reducible exact keepq ⟨a0, a1, a2, a3, b0, b1, b2, b3⟩ (hV2) | with_reducible exact keepq ⟨a0, a1, a2, a3, b0, b1, b2, b3⟩ (hV3) | (simp [go_sem, *]; done))
      (first
        | (go_at_call_of 24 (Value.agg #[.bool sa', .slice pa' na' nac']); go_at_call_of 24 (Value.agg #[.bool tb', .slice qb' mb' mbc']); refine (Mul_small sa' tb' pa' qb' na' nac' mb' mbc' xa' yb' _ hU.an.drew hU.bd.drew (.inl (by omega))).mono ?_; rintro e v1 ⟨s1, p1, n1, z1, rfl, hN1, hn1, hv1⟩; have hV1 := undrew hv1)
        | (go_at_call_of 24 (Value.agg #[.bool sb', .slice pb' nb' nbc']); go_at_call_of 24 (Value.agg #[.bool ta', .slice qa' ma' mac']); refine (Mul_small sb' ta' pb' qa' nb' nbc' ma' mac' xb' ya' _ (hU.bn.below hV1) (hU.ad.below hV1) (.inr (by omega))).mono ?_; rintro e v2 ⟨s2, p2, n2, z2, rfl, hN2, hn2, hv2⟩; have hV2 := bnext' hV1 hv2)
        | (go_at_call 23; refine (Cmp_any s1 s2 p1 p2 n1 n1 n2 n2 z1 z2 _ ((hN1.below hv2).ai (by omega)) (hN2.ai (by omega))).mono ?_; rintro e v3 ⟨rfl, hv3⟩; have hV3 := bnext' hV2 hv3))
    have HE : icmp (ival s1 z1) (ival s2 z2) = icmp (Qa.num * Qb.den) (Qb.num * Qa.den) := by
      rw [hN1.v, hN2.v, ← HVa.out.1, ← HVb.out.1]
      exact icmp_cross HVa.out.2 HVb.out.2
    clear a0 a1 a2 a3 b0 b1 b2 b3
    rw [HE]
    go_wp2
    go_ret
    exact ⟨rfl, hU.bel.trans (hV3.mono hU.bel.size)⟩
end Go.Proofs.YtongkalfdgleaaaDoor
/-
  rat.Over, Quo, combine, Add, Sub.
-/
namespace Go.Proofs.YtongkalfdgleaaaDoor
open Go.RowKit
set_option linter.unusedVariables false
set_option linter.unusedSimpArgs false

/-- What a function answers that gives a rational and a code. -/
def NcPost (r : Rat) (c : Int) (w : World) (e : Ending) (w' : World) : Prop :=
  ∃ s p n xs t q m ys, e = .returned (.tuple #[.agg #[.bool s, .slice p n n, .bool t, .slice q m m], .int .i64 c]) ∧ NR w.heap.size w' s p n xs t q m ys r ∧ Below w.heap.size w w'
theorem end_nc {w W w1 : World} {r : Nat} {s : Bool} {p : Option Addr} {n : Nat} {xs : List Int} {t : Bool} {q : Option Addr} {m : Nat} {ys : List Int} {z : Rat} {c : Int} {u v x y : Value} (hw : Below w.heap.size w W) (hr : w.heap.size ≤ r) (hr' : r < W.heap.size)
    (hN : NR W.heap.size w1 s p n xs t q m ys z) (hb : Below W.heap.size W w1) :
    NcPost z c w (.returned (.tuple #[.agg #[.bool s, .slice p n n, .bool t, .slice q m m], .int .i64 c])) ((((w1.setCell ⟨r, 0, none⟩ u).setCell ⟨r, 1, none⟩ v).setCell ⟨r, 2, none⟩ x).setCell ⟨r, 3, none⟩ y) :=
  ⟨_, _, _, xs, _, _, _, ys, rfl, ⟨(hN.num.set4 hr' _ _ _ _).mono hw.size, (hN.den.set4 hr' _ _ _ _).mono hw.size⟩, bset4 (bnext' hw hb) hr _ _ _ _⟩
theorem NI.nil (B : Nat) (w : World) : NI B w false none 0 [] 0 := ⟨rfl, Rd.nil, fun j => by simp [gx], by decide, fun _ => rfl, fun _ => rfl, by decide, fun a ha => by cases ha⟩
set_option maxRecDepth 100000 in
set_option maxHeartbeats 2000000 in
/-- rat.Over. -/
theorem Over_any (s t : Bool) (p q : Option Addr) (n nc m mc : Nat) (xs ys : List Int) (w : World) (hA : AI w p n nc xs) (hB : AI w q m mc ys) (hn : n < 80) (hm : m < 80) :
    Calls Tryd.prog 28 #[.agg #[.bool s, .slice p n nc], .agg #[.bool t, .slice q m mc]] w (NcPost (Rat.divInt (ival s xs) (ival t ys)) (if ival t ys = 0 then 2 else 0) w) := by
  generalize hQ : Rat.divInt (ival s xs) (ival t ys) = Q
  have HQ : Hid (Rat.divInt (ival s xs) (ival t ys) = Q) := hQ
  clear hQ
  have hd : Hid (ival t ys = 0 ∨ ival t ys ≠ 0) := Classical.em _
  generalize hc : (if ival t ys = 0 then (2 : Int) else 0) = c
  have HC : Hid ((if ival t ys = 0 then (2 : Int) else 0) = c) := hc
  clear hc
  go_enter Tryd.func28, Tryd.ntmps28
  go_wp2_with fail
  have hA0 : Bx (((w.alloc (.cells #[.bool s, .slice p n nc] 24)).alloc (.cells #[.bool t, .slice q m mc] 24)).alloc (.cells #[.bool false, .slice none 0 0, .bool false, .slice none 0 0] 26)) w.heap.size (.bool s) (.slice p n nc) := ((Bx.new _ _ _ rfl).alloc _).alloc _
  have hB0 : Bx (((w.alloc (.cells #[.bool s, .slice p n nc] 24)).alloc (.cells #[.bool t, .slice q m mc] 24)).alloc (.cells #[.bool false, .slice none 0 0, .bool false, .slice none 0 0] 26)) (w.heap.size + 1) (.bool t) (.slice q m mc) := (Bx.new _ _ _ (by simp)).alloc _
  have hR : Bq (((w.alloc (.cells #[.bool s, .slice p n nc] 24)).alloc (.cells #[.bool t, .slice q m mc] 24)).alloc (.cells #[.bool false, .slice none 0 0, .bool false, .slice none 0 0] 26)) (w.heap.size + 1 + 1) (.bool false) (.slice none 0 0) (.bool false) (.slice none 0 0) := Bq.new _ _ _ _ _ (by simp)
  have hW : Below w.heap.size w (((w.alloc (.cells #[.bool s, .slice p n nc] 24)).alloc (.cells #[.bool t, .slice q m mc] 24)).alloc (.cells #[.bool false, .slice none 0 0, .bool false, .slice none 0 0] 26)) := (((Below.refl _ _).alloc (Nat.le_refl _) _).alloc (by simp) _).alloc (by simp; omega) _
  generalize ((w.alloc (.cells #[.bool s, .slice p n nc] 24)).alloc (.cells #[.bool t, .slice q m mc] 24)).alloc (.cells #[.bool false, .slice none 0 0, .bool false, .slice none 0 0] 26) = W at *
  refine (Sign_any t q m mc ys _ (hB.below hW)).mono ?_
  rintro e w1 ⟨rfl, hb1⟩
  have hA1 := hA0.later hb1
  have hB1 := hB0.later hb1
  have hR1 := hR.later hb1
  have hW1 := bnext' hW hb1
  clear hA0 hB0 hR hW hb1
  have sR := hR1.lt
  have a0 := hA1.c0
  have a1 := hA1.c1
  have b0 := hB1.c0
  have b1 := hB1.c1
  rcases hd.out with h0 | h0
  · rw [isgn_zero h0]
    obtain rfl : c = 2 := by have := HC.out; rw [if_pos h0] at this; exact this.symm
    clear HC
    have HQ0 : Hid (Q = 0) := by have := HQ.out; rw [h0, Rat.divInt_zero] at this; exact this.symm
    clear h0
    go_wp2_with fail
    refine (zero_any w1).mono ?_
    rintro e w2 ⟨t', q', m', ys', rfl, hN, hm', hb2⟩
    obtain ⟨r0, r1, r2, r3, f0, f1, f2, f3⟩ := hR1.later hb2
    clear a0 a1 b0 b1
    go_wp2
    refine bodyPost_ret (v := .tuple #[.agg #[.bool false, .slice none 0 0, .bool t', .slice q' m' m'], .int .i64 2]) (by simp [results, Tryd.results28, go_sem, r0, r1, r2, r3]) rfl (end_nc (xs := []) (ys := ys') hW1 (by omega) sR ⟨?_, ?_⟩ hb2)
    · rw [HQ0.out]; exact NI.nil _ _
    · rw [HQ0.out]; exact hN
  · have hi : isgn (ival t ys) = 1 ∨ isgn (ival t ys) = -1 := by
      rcases (show 0 < ival t ys ∨ ival t ys < 0 by omega) with h | h
      · exact .inl (isgn_pos h)
      · exact .inr (isgn_neg h)
    obtain rfl : c = 0 := by have := HC.out; rw [if_neg h0] at this; exact this.symm
    clear HC
    have H0 : Hid (ival t ys ≠ 0) := h0
    clear h0
    rcases hi with hi | hi
    all_goals
      rw [hi]
      clear hi
      go_wp2_with fail
      have h3 := lowest_any s t p q n nc m mc xs ys w1 (hA.below hW1) (hB.below hW1) H0.out hn hm
      rw [HQ.out] at h3
      refine h3.mono ?_
      rintro e w2 ⟨s3, p3, n3, x3, t3, q3, m3, y3, rfl, hN3, hb2⟩
      obtain ⟨r0, r1, r2, r3, f0, f1, f2, f3⟩ := hR1.later hb2
      clear a0 a1 b0 b1
      go_wp2
      exact bodyPost_ret (v := .tuple #[.agg #[.bool s3, .slice p3 n3 n3, .bool t3, .slice q3 m3 m3], .int .i64 0]) (by simp [results, Tryd.results28, go_sem, r0, r1, r2, r3]) rfl (end_nc hW1 (by omega) sR hN3 hb2)
theorem Over_of (s t : Bool) (p q : Option Addr) (n nc m mc : Nat) (xs ys : List Int) (w : World) (hA : AI w p n nc xs) (hB : AI w q m mc ys) (hn : n < 80) (hm : m < 80) (c : Int) (hc : (if ival t ys = 0 then (2 : Int) else 0) = c) :
    Calls Tryd.prog 28 #[.agg #[.bool s, .slice p n nc], .agg #[.bool t, .slice q m mc]] w (NcPost (Rat.divInt (ival s xs) (ival t ys)) c w) := hc ▸ Over_any s t p q n nc m mc xs ys w hA hB hn hm
theorem quo_code {a b c d : Int} {e : Int} (hb : 0 < b) (hd : 0 < d) (h : (if Rat.divInt c d = 0 then (2 : Int) else 0) = e) : (if b * c = 0 then (2 : Int) else 0) = e := by
  rw [← h]
  have h1 : (b * c = 0) ↔ (Rat.divInt c d = 0) := by
    have h0 : (0 : Rat) = Rat.divInt 0 1 := rfl
    rw [h0, Rat.divInt_eq_divInt_iff (by omega) (by decide), Int.mul_eq_zero]
    omega
  simp only [h1]
set_option maxRecDepth 100000 in
set_option maxHeartbeats 4000000 in
/-- rat.Quo. -/
theorem qQuo_any (sa ta sb tb : Bool) (pa qa pb qb : Option Addr) (na nac ma mac nb nbc mb mbc : Nat) (xa ya xb yb : List Int) (w : World) (hA : AI w pa na nac xa) (hA' : AI w qa ma mac ya) (hB : AI w pb nb nbc xb) (hB' : AI w qb mb mbc yb) (Ka Kb : Nat) (hKa : 1 ≤ Ka) (hKb : 1 ≤ Kb) (hK : Ka + Kb + 1 ≤ 80) (la : na ≤ Ka) (la' : ma ≤ Ka) (lb : nb ≤ Kb) (lb' : mb ≤ Kb) :
    Calls Tryd.prog 10 #[.agg #[.bool sa, .slice pa na nac, .bool ta, .slice qa ma mac], .agg #[.bool sb, .slice pb nb nbc, .bool tb, .slice qb mb mbc]] w (NcPost (Rat.divInt (ival sa xa) (ival ta ya) / Rat.divInt (ival sb xb) (ival tb yb)) (if Rat.divInt (ival sb xb) (ival tb yb) = 0 then 2 else 0) w) := by
  generalize hQa : Rat.divInt (ival sa xa) (ival ta ya) = Qa
  generalize hQb : Rat.divInt (ival sb xb) (ival tb yb) = Qb
  have HQa : Hid (Rat.divInt (ival sa xa) (ival ta ya) = Qa) := hQa
  have HQb : Hid (Rat.divInt (ival sb xb) (ival tb yb) = Qb) := hQb
  clear hQa hQb
  generalize hc : (if Qb = 0 then (2 : Int) else 0) = c
  have HC : Hid ((if Qb = 0 then (2 : Int) else 0) = c) := hc
  clear hc
  go_enter Tryd.func10, Tryd.ntmps10
  go_wp2_with fail
  have hA0 : Bq (((w.alloc (.cells #[.bool sa, .slice pa na nac, .bool ta, .slice qa ma mac] 26)).alloc (.cells #[.bool sb, .slice pb nb nbc, .bool tb, .slice qb mb mbc] 26)).alloc (.cells #[.bool false, .slice none 0 0, .bool false, .slice none 0 0] 26)) w.heap.size (.bool sa) (.slice pa na nac) (.bool ta) (.slice qa ma mac) := ((Bq.new _ _ _ _ _ rfl).alloc _).alloc _
  have hB0 : Bq (((w.alloc (.cells #[.bool sa, .slice pa na nac, .bool ta, .slice qa ma mac] 26)).alloc (.cells #[.bool sb, .slice pb nb nbc, .bool tb, .slice qb mb mbc] 26)).alloc (.cells #[.bool false, .slice none 0 0, .bool false, .slice none 0 0] 26)) (w.heap.size + 1) (.bool sb) (.slice pb nb nbc) (.bool tb) (.slice qb mb mbc) := (Bq.new _ _ _ _ _ (by simp)).alloc _
  have hR0 : Bq (((w.alloc (.cells #[.bool sa, .slice pa na nac, .bool ta, .slice qa ma mac] 26)).alloc (.cells #[.bool sb, .slice pb nb nbc, .bool tb, .slice qb mb mbc] 26)).alloc (.cells #[.bool false, .slice none 0 0, .bool false, .slice none 0 0] 26)) (w.heap.size + 1 + 1) (.bool false) (.slice none 0 0) (.bool false) (.slice none 0 0) := Bq.new _ _ _ _ _ (by simp)
  have hW : Below w.heap.size w (((w.alloc (.cells #[.bool sa, .slice pa na nac, .bool ta, .slice qa ma mac] 26)).alloc (.cells #[.bool sb, .slice pb nb nbc, .bool tb, .slice qb mb mbc] 26)).alloc (.cells #[.bool false, .slice none 0 0, .bool false, .slice none 0 0] 26)) := (((Below.refl _ _).alloc (Nat.le_refl _) _).alloc (by simp) _).alloc (by simp; omega) _
  generalize ((w.alloc (.cells #[.bool sa, .slice pa na nac, .bool ta, .slice qa ma mac] 26)).alloc (.cells #[.bool sb, .slice pb nb nbc, .bool tb, .slice qb mb mbc] 26)).alloc (.cells #[.bool false, .slice none 0 0, .bool false, .slice none 0 0] 26) = W at *
  go_cut [] (fun wc => ∃ sa' ta' sb' tb' pa' qa' pb' qb' na' nac' ma' mac' nb' nbc' mb' mbc' xa' ya' xb' yb', U2 w wc Ka Kb Qa Qb sa' ta' sb' tb' pa' qa' pb' qb' na' nac' ma' mac' nb' nbc' mb' mbc' xa' ya' xb' yb' ∧ Bq wc (w.heap.size + 1 + 1) (.bool false) (.slice none 0 0) (.bool false) (.slice none 0 0))
  case first =>
    have a0 := hA0.c0
    have a1 := hA0.c1
    have a2 := hA0.c2
    have a3 := hA0.c3
    have b0 := hB0.c0
    have b1 := hB0.c1
    have b2 := hB0.c2
    have b3 := hB0.c3
    go_region_with (first
      | (go_at_call_of 22 (Value.agg #[.bool sa, .slice pa na nac, .bool ta, .slice qa ma mac]); refine (upright_any sa ta pa qa na nac ma mac xa ya _ (hA.below hW).drew (hA'.below hW).drew Ka hKa la la').mono ?_; rintro e w1 ⟨sa', pa', na', nac', xa', ta', qa', ma', mac', ya', rfl, hX1, hX2, hp1, hv1, l1, l2, hof1, hb1⟩; have hA1 := hA0.later (undrew hb1); have hB1 := hB0.later (undrew hb1); have b10 := hB1.c0; have b11 := hB1.c1; have b12 := hB1.c2; have b13 := hB1.c3)
      | (go_at_call_of 22 (Value.agg #[.bool sb, .slice pb nb nbc, .bool tb, .slice qb mb mbc]); refine (upright_any sb tb pb qb nb nbc mb mbc xb yb _ ((hB.below hW).drew.below hb1) ((hB'.below hW).drew.below hb1) Kb hKb lb lb').mono ?_; rintro e w2 ⟨sb', pb', nb', nbc', xb', tb', qb', mb', mbc', yb', rfl, hY1, hY2, hp2, hv2, l3, l4, hof2, hb2⟩; have hA2 := hA1.later hb2; have hB2 := hB1.later hb2; obtain ⟨a20, a21, a22, a23, af0, af1, af2, af3⟩ := hA2; obtain ⟨b20, b21, b22, b23, bf0, bf1, bf2, bf3⟩ := hB2))
    all_goals (go_wp2_with fail; go_meet)
    all_goals
      have sA := hA0.lt
      have sB := hB0.lt
      have s1 : W.heap.size ≤ w1.heap.size := hb1.size
      have s2 := hb2.size
      have oa := hof1 w.heap.size sA (hA.off (Nat.le_refl _)) (hA'.off (Nat.le_refl _))
      have oa' := hof1 (w.heap.size + 1) sB (hA.off (Nat.le_succ _)) (hA'.off (Nat.le_succ _))
      have ob := hof2 w.heap.size (by omega) (hB.off (Nat.le_refl _)) (hB'.off (Nat.le_refl _))
      have ob' := hof2 (w.heap.size + 1) (by omega) (hB.off (Nat.le_succ _)) (hB'.off (Nat.le_succ _))
      refine ⟨sa', ta', sb', tb', pa', qa', pb', qb', na', nac', ma', mac', nb', nbc', mb', mbc', xa', ya', xb', yb', ⟨⟨?_, ?_, ?_, ?_, ?_, ?_, hp1, hp2, hv1.trans HQa.out, hv2.trans HQb.out, l1, l2, l3, l4, ?_⟩, ?_⟩⟩
      · exact Bq_oth (Bq_set ((hA0.later (undrew hb1)).later hb2)) (by omega)
      · exact Bq_set (Bq_oth ((hB0.later (undrew hb1)).later hb2) (by omega))
      · exact ((hX1.below hb2).set4 oa.1 _ _ _ _).set4 oa'.1 _ _ _ _
      · exact ((hX2.below hb2).set4 oa.2 _ _ _ _).set4 oa'.2 _ _ _ _
      · exact (hY1.set4 ob.1 _ _ _ _).set4 ob'.1 _ _ _ _
      · exact (hY2.set4 ob.2 _ _ _ _).set4 ob'.2 _ _ _ _
      · exact bset4 (bset4 (bnext' (bnext' hW (undrew hb1)) hb2) (by omega) _ _ _ _) (by omega) _ _ _ _
      · exact Bq_oth (Bq_oth ((hR0.later (undrew hb1)).later hb2) (by omega)) (by omega)
  case rest =>
    obtain ⟨sa', ta', sb', tb', pa', qa', pb', qb', na', nac', ma', mac', nb', nbc', mb', mbc', xa', ya', xb', yb', hU, hR⟩ := hcut
    clear hA0 hB0 hR0 hW la la' lb lb' hA hA' hB hB'
    have la := hU.la
    have la' := hU.la'
    have lb := hU.lb
    have lb' := hU.lb'
    have HVa : Hid (Rat.divInt (ival sa' xa') (ival ta' ya') = Qa ∧ 0 < ival ta' ya') := ⟨hU.va, hU.ap⟩
    have HVb : Hid (Rat.divInt (ival sb' xb') (ival tb' yb') = Qb ∧ 0 < ival tb' yb') := ⟨hU.vb, hU.bp⟩
    have a0 := hU.a.c0
    have a1 := hU.a.c1
    have a2 := hU.a.c2
    have a3 := hU.a.c3
    have b0 := hU.b.c0
    have b1 := hU.b.c1
    have b2 := hU.b.c2
    have b3 := hU.b.c3
    go_wp2_with fail
    go_region_held3 (fun w' => w'.cell? ⟨w.heap.size, 0, none⟩ = some (.bool sa') ∧ w'.cell? ⟨w.heap.size, 1, none⟩ = some (.slice pa' na' nac') ∧ w'.cell? ⟨w.heap.size, 2, none⟩ = some (.bool ta') ∧ w'.cell? ⟨w.heap.size, 3, none⟩ = some (.slice qa' ma' mac') ∧ w'.cell? ⟨w.heap.size + 1, 0, none⟩ = some (.bool sb') ∧ w'.cell? ⟨w.heap.size + 1, 1, none⟩ = some (.slice pb' nb' nbc') ∧ w'.cell? ⟨w.heap.size + 1, 2, none⟩ = some (.bool tb') ∧ w'.cell? ⟨w.heap.size + 1, 3, none⟩ = some (.slice qb' mb' mbc')) (first | with_reducible exact ⟨a0, a1, a2, a3, b0, b1, b2, b3⟩ | with_reducible exact keepq ⟨a0, a1, a2, a3, b0, b1, b2, b3⟩ (hV1) | with_reducible exact keepq ⟨a0, a1, a2, a3, b0, b1, b2, b3⟩ (hV2) | with_reducible exact keepq ⟨a0, a1, a2, a3, b0, b1, b2, b3⟩ (hV3) | (simp [go_sem, *]; done))
      (first
        | (go_at_call_of 24 (Value.agg #[.bool sa', .slice pa' na' nac']); go_at_call_of 24 (Value.agg #[.bool tb', .slice qb' mb' mbc']); refine (Mul_small sa' tb' pa' qb' na' nac' mb' mbc' xa' yb' _ hU.an.drew hU.bd.drew (.inl (by omega))).mono ?_; rintro e v1 ⟨s1, p1, n1, z1, rfl, hN1, hn1, hv1⟩; have hV1 := undrew hv1)
        | (go_at_call_of 24 (Value.agg #[.bool ta', .slice qa' ma' mac']); go_at_call_of 24 (Value.agg #[.bool sb', .slice pb' nb' nbc']); refine (Mul_small ta' sb' qa' pb' ma' mac' nb' nbc' ya' xb' _ (hU.ad.below hV1) (hU.bn.below hV1) (.inl (by omega))).mono ?_; rintro e v2 ⟨s2, p2, n2, z2, rfl, hN2, hn2, hv2⟩; have hV2 := bnext' hV1 hv2; have HC2 : Hid ((if ival s2 z2 = 0 then (2 : Int) else 0) = c) := by rw [hN2.v]; exact quo_code (a := 0) HVa.out.2 HVb.out.2 (by rw [HVb.out.1]; exact HC.out))
        | (go_at_call 28; refine (Over_of s1 s2 p1 p2 n1 n1 n2 n2 z1 z2 _ ((hN1.below hv2).ai (by omega)) (hN2.ai (by omega)) (by omega) (by omega) c HC2.out).mono ?_; rintro e v3 ⟨s3, p3, n3, x3, t3, q3, m3, y3, rfl, hN3, hv3⟩; have hV3 := bnext' hV2 hv3; have hR3 := (hR.later hV2).later hv3; obtain ⟨r0, r1, r2, r3, f0, f1, f2, f3⟩ := hR3))
    have HE : Rat.divInt (ival s1 z1) (ival s2 z2) = Qa / Qb := by
      rw [hN1.v, hN2.v, ← HVa.out.1, ← HVb.out.1, Rat.div_def, Rat.inv_divInt, Rat.divInt_mul_divInt]
    clear a0 a1 a2 a3 b0 b1 b2 b3
    go_wp2
    exact bodyPost_ret (v := .tuple #[.agg #[.bool s3, .slice p3 n3 n3, .bool t3, .slice q3 m3 m3], .int .i64 c]) (by simp [results, Tryd.results10, go_sem, r0, r1, r2, r3]) rfl (end_nc (hU.bel.trans (hV2.mono hU.bel.size)) (by omega) (by have := hR.lt; have := hV2.size; omega) (hN3.of HE) hv3)
end Go.Proofs.YtongkalfdgleaaaDoor
/-
  rat.combine, Add, Sub.
-/
namespace Go.Proofs.YtongkalfdgleaaaDoor
open Go.RowKit
set_option linter.unusedVariables false
set_option linter.unusedSimpArgs false

theorem NI.abs_lt {B : Nat} {w : World} {s : Bool} {p : Option Addr} {n : Nat} {xs : List Int} {z : Int} (h : NI B w s p n xs z) {k : Nat} (hk : n ≤ k) : (z.natAbs : Int) < pw k := by
  have h1 := val_nonneg h.u
  have h2 := val_lt_tlen h.u
  rw [h.nrm] at h2
  have h3 := pw_mono hk
  rw [← h.v, ival]
  split <;> omega
theorem sum_bd {z x y : Int} {k : Nat} (h : z.natAbs ≤ x.natAbs + y.natAbs) (hx : (x.natAbs : Int) < pw k) (hy : (y.natAbs : Int) < pw k) : (z.natAbs : Int) < pw (k + 1) := by
  rw [pw_succ]
  have := pw_pos k
  omega
set_option maxRecDepth 100000 in
set_option maxHeartbeats 4000000 in
/-- rat.combine. -/
theorem combine_any (sa ta sb tb : Bool) (pa qa pb qb : Option Addr) (na nac ma mac nb nbc mb mbc : Nat) (xa ya xb yb : List Int) (w : World) (hA : AI w pa na nac xa) (hA' : AI w qa ma mac ya) (hB : AI w pb nb nbc xb) (hB' : AI w qb mb mbc yb) (Ka Kb : Nat) (hKa : 1 ≤ Ka) (hKb : 1 ≤ Kb) (hK : Ka + Kb + 2 ≤ 80) (la : na ≤ Ka) (la' : ma ≤ Ka) (lb : nb ≤ Kb) (lb' : mb ≤ Kb) (J : Nat) (hE : ∀ args w', Sem.run Tryd.prog (callFunc J args) w' = .ok (.enter J args) w') (op : Int → Int → Int) (hop : ∀ x y, ((op x y).natAbs) ≤ x.natAbs + y.natAbs) (hJ : ∀ (s t : Bool) (p q : Option Addr) (n m : Nat) (xs ys : List Int) (x y : Int) (B : Nat) (w' : World), n ≤ 80 → m ≤ 80 → NI B w' s p n xs x → NI B w' t q m ys y → Calls Tryd.prog J #[.agg #[.bool s, .slice p n n], .agg #[.bool t, .slice q m m]] w' (fun e w'' => ∃ s' p' n' zs, e = .returned (.agg #[.bool s', .slice p' n' n']) ∧ NI w'.heap.size w'' s' p' n' zs (op x y) ∧ Below w'.heap.size w' w'')) (Z : Rat) (hZ : ∀ a b c d : Int, 0 < b → 0 < d → Rat.divInt a b = Rat.divInt (ival sa xa) (ival ta ya) → Rat.divInt c d = Rat.divInt (ival sb xb) (ival tb yb) → Rat.divInt (op (a * d) (c * b)) (b * d) = Z) :
    Calls Tryd.prog 26 #[.agg #[.bool sa, .slice pa na nac, .bool ta, .slice qa ma mac], .agg #[.bool sb, .slice pb nb nbc, .bool tb, .slice qb mb mbc], .func (.func J) #[] #[]] w (NrPost Z w) := by
  have HE := (show Hid _ from hE)
  have HOP := (show Hid _ from hop)
  have HJ := (show Hid _ from hJ)
  have HZ := (show Hid _ from hZ)
  clear hop hJ hZ hE
  generalize hQa : Rat.divInt (ival sa xa) (ival ta ya) = Qa
  generalize hQb : Rat.divInt (ival sb xb) (ival tb yb) = Qb
  have HQa : Hid (Rat.divInt (ival sa xa) (ival ta ya) = Qa) := hQa
  have HQb : Hid (Rat.divInt (ival sb xb) (ival tb yb) = Qb) := hQb
  clear hQa hQb
  go_enter Tryd.func26, Tryd.ntmps26
  go_wp2_with fail
  have hA0 : Bq (((w.alloc (.cells #[.bool sa, .slice pa na nac, .bool ta, .slice qa ma mac] 26)).alloc (.cells #[.bool sb, .slice pb nb nbc, .bool tb, .slice qb mb mbc] 26)).alloc (.cells #[.bool false, .slice none 0 0, .bool false, .slice none 0 0] 26)) w.heap.size (.bool sa) (.slice pa na nac) (.bool ta) (.slice qa ma mac) := ((Bq.new _ _ _ _ _ rfl).alloc _).alloc _
  have hB0 : Bq (((w.alloc (.cells #[.bool sa, .slice pa na nac, .bool ta, .slice qa ma mac] 26)).alloc (.cells #[.bool sb, .slice pb nb nbc, .bool tb, .slice qb mb mbc] 26)).alloc (.cells #[.bool false, .slice none 0 0, .bool false, .slice none 0 0] 26)) (w.heap.size + 1) (.bool sb) (.slice pb nb nbc) (.bool tb) (.slice qb mb mbc) := (Bq.new _ _ _ _ _ (by simp)).alloc _
  have hR0 : Bq (((w.alloc (.cells #[.bool sa, .slice pa na nac, .bool ta, .slice qa ma mac] 26)).alloc (.cells #[.bool sb, .slice pb nb nbc, .bool tb, .slice qb mb mbc] 26)).alloc (.cells #[.bool false, .slice none 0 0, .bool false, .slice none 0 0] 26)) (w.heap.size + 1 + 1) (.bool false) (.slice none 0 0) (.bool false) (.slice none 0 0) := Bq.new _ _ _ _ _ (by simp)
  have hW : Below w.heap.size w (((w.alloc (.cells #[.bool sa, .slice pa na nac, .bool ta, .slice qa ma mac] 26)).alloc (.cells #[.bool sb, .slice pb nb nbc, .bool tb, .slice qb mb mbc] 26)).alloc (.cells #[.bool false, .slice none 0 0, .bool false, .slice none 0 0] 26)) := (((Below.refl _ _).alloc (Nat.le_refl _) _).alloc (by simp) _).alloc (by simp; omega) _
  generalize ((w.alloc (.cells #[.bool sa, .slice pa na nac, .bool ta, .slice qa ma mac] 26)).alloc (.cells #[.bool sb, .slice pb nb nbc, .bool tb, .slice qb mb mbc] 26)).alloc (.cells #[.bool false, .slice none 0 0, .bool false, .slice none 0 0] 26) = W at *
  go_cut [] (fun wc => ∃ sa' ta' sb' tb' pa' qa' pb' qb' na' nac' ma' mac' nb' nbc' mb' mbc' xa' ya' xb' yb', U2 w wc Ka Kb Qa Qb sa' ta' sb' tb' pa' qa' pb' qb' na' nac' ma' mac' nb' nbc' mb' mbc' xa' ya' xb' yb' ∧ Bq wc (w.heap.size + 1 + 1) (.bool false) (.slice none 0 0) (.bool false) (.slice none 0 0))
  case first =>
    have a0 := hA0.c0
    have a1 := hA0.c1
    have a2 := hA0.c2
    have a3 := hA0.c3
    have b0 := hB0.c0
    have b1 := hB0.c1
    have b2 := hB0.c2
    have b3 := hB0.c3
    go_region_with (first
      | (go_at_call_of 22 (Value.agg #[.bool sa, .slice pa na nac, .bool ta, .slice qa ma mac]); refine (upright_any sa ta pa qa na nac ma mac xa ya _ (hA.below hW).drew (hA'.below hW).drew Ka hKa la la').mono ?_; rintro e w1 ⟨sa', pa', na', nac', xa', ta', qa', ma', mac', ya', rfl, hX1, hX2, hp1, hv1, l1, l2, hof1, hb1⟩; have hA1 := hA0.later (undrew hb1); have hB1 := hB0.later (undrew hb1); have b10 := hB1.c0; have b11 := hB1.c1; have b12 := hB1.c2; have b13 := hB1.c3)
      | (go_at_call_of 22 (Value.agg #[.bool sb, .slice pb nb nbc, .bool tb, .slice qb mb mbc]); refine (upright_any sb tb pb qb nb nbc mb mbc xb yb _ ((hB.below hW).drew.below hb1) ((hB'.below hW).drew.below hb1) Kb hKb lb lb').mono ?_; rintro e w2 ⟨sb', pb', nb', nbc', xb', tb', qb', mb', mbc', yb', rfl, hY1, hY2, hp2, hv2, l3, l4, hof2, hb2⟩; have hA2 := hA1.later hb2; have hB2 := hB1.later hb2; obtain ⟨a20, a21, a22, a23, af0, af1, af2, af3⟩ := hA2; obtain ⟨b20, b21, b22, b23, bf0, bf1, bf2, bf3⟩ := hB2))
    all_goals (go_wp2_with fail; go_meet)
    all_goals
      have sA := hA0.lt
      have sB := hB0.lt
      have s1 : W.heap.size ≤ w1.heap.size := hb1.size
      have s2 := hb2.size
      have oa := hof1 w.heap.size sA (hA.off (Nat.le_refl _)) (hA'.off (Nat.le_refl _))
      have oa' := hof1 (w.heap.size + 1) sB (hA.off (Nat.le_succ _)) (hA'.off (Nat.le_succ _))
      have ob := hof2 w.heap.size (by omega) (hB.off (Nat.le_refl _)) (hB'.off (Nat.le_refl _))
      have ob' := hof2 (w.heap.size + 1) (by omega) (hB.off (Nat.le_succ _)) (hB'.off (Nat.le_succ _))
      refine ⟨sa', ta', sb', tb', pa', qa', pb', qb', na', nac', ma', mac', nb', nbc', mb', mbc', xa', ya', xb', yb', ⟨⟨?_, ?_, ?_, ?_, ?_, ?_, hp1, hp2, hv1.trans HQa.out, hv2.trans HQb.out, l1, l2, l3, l4, ?_⟩, ?_⟩⟩
      · exact Bq_oth (Bq_set ((hA0.later (undrew hb1)).later hb2)) (by omega)
      · exact Bq_set (Bq_oth ((hB0.later (undrew hb1)).later hb2) (by omega))
      · exact ((hX1.below hb2).set4 oa.1 _ _ _ _).set4 oa'.1 _ _ _ _
      · exact ((hX2.below hb2).set4 oa.2 _ _ _ _).set4 oa'.2 _ _ _ _
      · exact (hY1.set4 ob.1 _ _ _ _).set4 ob'.1 _ _ _ _
      · exact (hY2.set4 ob.2 _ _ _ _).set4 ob'.2 _ _ _ _
      · exact bset4 (bset4 (bnext' (bnext' hW (undrew hb1)) hb2) (by omega) _ _ _ _) (by omega) _ _ _ _
      · exact Bq_oth (Bq_oth ((hR0.later (undrew hb1)).later hb2) (by omega)) (by omega)
  case rest =>
    obtain ⟨sa', ta', sb', tb', pa', qa', pb', qb', na', nac', ma', mac', nb', nbc', mb', mbc', xa', ya', xb', yb', hU, hR⟩ := hcut
    clear hA0 hB0 hR0 hW la la' lb lb' hA hA' hB hB'
    have la := hU.la
    have la' := hU.la'
    have lb := hU.lb
    have lb' := hU.lb'
    have HVa : Hid (Rat.divInt (ival sa' xa') (ival ta' ya') = Qa ∧ 0 < ival ta' ya') := ⟨hU.va, hU.ap⟩
    have HVb : Hid (Rat.divInt (ival sb' xb') (ival tb' yb') = Qb ∧ 0 < ival tb' yb') := ⟨hU.vb, hU.bp⟩
    have a0 := hU.a.c0
    have a1 := hU.a.c1
    have a2 := hU.a.c2
    have a3 := hU.a.c3
    have b0 := hU.b.c0
    have b1 := hU.b.c1
    have b2 := hU.b.c2
    have b3 := hU.b.c3
    clear a0 a1 a2 a3 b0 b1 b2 b3
    go_upto_region 2 with fail
    go_cut [7] (fun xv w3 => ∃ (g : Nat) (s : Bool) (p : Option Addr) (n : Nat) (z : List Int), xv = .pointer (some ⟨g, 0, none⟩) ∧ U2 w w3 Ka Kb Qa Qb sa' ta' sb' tb' pa' qa' pb' qb' na' nac' ma' mac' nb' nbc' mb' mbc' xa' ya' xb' yb' ∧ Bq w3 (w.heap.size + 1 + 1) (.bool false) (.slice none 0 0) (.bool false) (.slice none 0 0) ∧ Bx w3 g (.bool s) (.slice p n n) ∧ NI wc.heap.size w3 s p n z (op (ival sa' xa' * ival tb' yb') (ival sb' xb' * ival ta' ya')) ∧ n ≤ Ka + Kb + 1 ∧ wc.heap.size ≤ g ∧ Below wc.heap.size wc w3)
    case first =>
      refine region_inv (by kernel_rfl) (fun listed a' w' => ∃ (m0 k1 l1 k2 l2 c1 k3 l3 k4 l4 c2 c3 a s : Bool) (mv f1 v1 f2 v2 f3 v3 f4 v4 r1 r2 r3 x : Value) (t17 : Bool) (p17 : Option Addr) (n17 : Nat) (z17 : List Int) (t27 : Bool) (p27 : Option Addr) (n27 : Nat) (z27 : List Int) (t37 : Bool) (p37 : Option Addr) (n37 : Nat) (z37 : List Int) (g : Nat), listed = #[m0, k1, l1, k2, l2, c1, k3, l3, k4, l4, c2, c3, a, s] ∧ a' = ({ tmps := ((.agg #[.bool sa, .slice pa na nac, .bool ta, .slice qa ma mac]) :: (.agg #[.bool sb, .slice pb nb nbc, .bool tb, .slice qb mb mbc]) :: (.func (.func J) #[] #[]) :: (.pointer (some ⟨w.heap.size, 0, none⟩)) :: (.pointer (some ⟨w.heap.size + 1, 0, none⟩)) :: (undef) :: (.pointer (some ⟨w.heap.size + 1 + 1, 0, none⟩)) :: (x) :: (u8) :: (u9) :: (u10) :: (u11) :: (mv) :: (f1) :: (v1) :: (f2) :: (v2) :: (r1) :: (f3) :: (v3) :: (f4) :: (v4) :: (r2) :: (r3) :: (u24) :: (u25) :: (u26) :: (u27) :: (u28) :: (u29) :: (u30) :: ([] : List Value)).toArray, defers := [] } : Act) ∧ (m0 = true → mv = .func (.func J) #[] #[]) ∧ (k1 = true → f1 = .pointer (some ⟨w.heap.size, 0, none⟩)) ∧ (l1 = true → v1 = .agg #[.bool sa', .slice pa' na' nac']) ∧ (k2 = true → f2 = .pointer (some ⟨w.heap.size + 1, 2, none⟩)) ∧ (l2 = true → v2 = .agg #[.bool tb', .slice qb' mb' mbc']) ∧ (k3 = true → f3 = .pointer (some ⟨w.heap.size + 1, 0, none⟩)) ∧ (l3 = true → v3 = .agg #[.bool sb', .slice pb' nb' nbc']) ∧ (k4 = true → f4 = .pointer (some ⟨w.heap.size, 2, none⟩)) ∧ (l4 = true → v4 = .agg #[.bool ta', .slice qa' ma' mac']) ∧ Hid (G7 wc w' (ival sa' xa' * ival tb' yb') (ival sb' xb' * ival ta' ya') (op (ival sa' xa' * ival tb' yb') (ival sb' xb' * ival ta' ya')) (Ka + Kb) (Ka + Kb) (Ka + Kb + 1) c1 c2 c3 a s r1 r2 r3 x t17 p17 n17 z17 t27 p27 n27 z27 t37 p37 n37 z37 g)) (by kernel_rfl) ?_ ?_ ?_
      · rintro listed a' w' ⟨m0, k1, l1, k2, l2, c1, k3, l3, k4, l4, c2, c3, a, s, mv, f1, v1, f2, v2, f3, v3, f4, v4, r1, r2, r3, x, t17, p17, n17, z17, t27, p27, n27, z27, t37, p37, n37, z37, g, rfl, rfl, hmv, hf1, hv1, hf2, hv2, hf3, hv3, hf4, hv4, H⟩ hall
        obtain rfl : m0 = true := by simpa using hall 0 (by decide)
        obtain rfl : k1 = true := by simpa using hall 1 (by decide)
        obtain rfl : l1 = true := by simpa using hall 2 (by decide)
        obtain rfl : k2 = true := by simpa using hall 3 (by decide)
        obtain rfl : l2 = true := by simpa using hall 4 (by decide)
        obtain rfl : c1 = true := by simpa using hall 5 (by decide)
        obtain rfl : k3 = true := by simpa using hall 6 (by decide)
        obtain rfl : l3 = true := by simpa using hall 7 (by decide)
        obtain rfl : k4 = true := by simpa using hall 8 (by decide)
        obtain rfl : l4 = true := by simpa using hall 9 (by decide)
        obtain rfl : c2 = true := by simpa using hall 10 (by decide)
        obtain rfl : c3 = true := by simpa using hall 11 (by decide)
        obtain rfl : a = true := by simpa using hall 12 (by decide)
        obtain rfl : s = true := by simpa using hall 13 (by decide)
        clear hall
        obtain ⟨rfl, x2, xu, xv, x3, x4⟩ := H.out.X rfl
        obtain ⟨rfl, m1, m2⟩ := H.out.M3 rfl
        have x5 := x4 rfl
        injection x5 with x5
        simp at x5
        obtain ⟨rfl, rfl⟩ := x5
        go_wp2_with fail
        go_meet
        exact ⟨_, _, _, _, _, rfl, hU.later H.out.bel, hR.later H.out.bel, x3, m1, m2, x2, H.out.bel⟩
      · rintro listed a' w' ⟨m0, k1, l1, k2, l2, c1, k3, l3, k4, l4, c2, c3, a, s, mv, f1, v1, f2, v2, f3, v3, f4, v4, r1, r2, r3, x, t17, p17, n17, z17, t27, p27, n27, z27, t37, p37, n37, z37, g, rfl, rfl, hmv, hf1, hv1, hf2, hv2, hf3, hv3, hf4, hv4, H⟩ i o hio h0 hd
        have hi : i < 14 := (Array.getElem?_eq_some_iff.1 hio).1
        rcases i with _ | _ | _ | _ | _ | _ | _ | _ | _ | _ | _ | _ | _ | _ | i
        · obtain rfl := (Option.some.inj hio)
          replace h0 : m0 = false := by simpa using h0
          clear hd
          refine wpOp_step rfl (fun K' hK0 => ?_)
          have hK := (show Hid _ from hK0)
          clear hK0
          go_wp2
          exact hK.out _ _ ⟨true, k1, l1, k2, l2, c1, k3, l3, k4, l4, c2, c3, a, s, .func (.func J) #[] #[], f1, v1, f2, v2, f3, v3, f4, v4, r1, r2, r3, x, t17, p17, n17, z17, t27, p27, n27, z27, t37, p37, n37, z37, g, rfl, rfl, fun _ => rfl, hf1, hv1, hf2, hv2, hf3, hv3, hf4, hv4, H.out⟩
        · obtain rfl := (Option.some.inj hio)
          replace h0 : k1 = false := by simpa using h0
          clear hd
          refine wpOp_step rfl (fun K' hK0 => ?_)
          have hK := (show Hid _ from hK0)
          clear hK0
          go_wp2
          exact hK.out _ _ ⟨m0, true, l1, k2, l2, c1, k3, l3, k4, l4, c2, c3, a, s, mv, .pointer (some ⟨w.heap.size, 0, none⟩), v1, f2, v2, f3, v3, f4, v4, r1, r2, r3, x, t17, p17, n17, z17, t27, p27, n27, z27, t37, p37, n37, z37, g, rfl, rfl, hmv, fun _ => rfl, hv1, hf2, hv2, hf3, hv3, hf4, hv4, H.out⟩
        · obtain rfl := (Option.some.inj hio)
          replace h0 : l1 = false := by simpa using h0
          have hd0 : k1 = true := by simpa [Region.binds] using hd ⟨1, .data⟩ (by simp)
          clear hd
          refine wpOp_step rfl (fun K' hK0 => ?_)
          have hK := (show Hid _ from hK0)
          clear hK0
          obtain rfl := hf1 hd0
          have hC := hU.later H.out.bel
          have z0 := hC.a.c0
          have z1 := hC.a.c1
          go_wp2
          exact hK.out _ _ ⟨m0, k1, true, k2, l2, c1, k3, l3, k4, l4, c2, c3, a, s, mv, _, .agg #[.bool sa', .slice pa' na' nac'], f2, v2, f3, v3, f4, v4, r1, r2, r3, x, t17, p17, n17, z17, t27, p27, n27, z27, t37, p37, n37, z37, g, rfl, rfl, hmv, fun _ => rfl, fun _ => rfl, hf2, hv2, hf3, hv3, hf4, hv4, H.out⟩
        · obtain rfl := (Option.some.inj hio)
          replace h0 : k2 = false := by simpa using h0
          clear hd
          refine wpOp_step rfl (fun K' hK0 => ?_)
          have hK := (show Hid _ from hK0)
          clear hK0
          go_wp2
          exact hK.out _ _ ⟨m0, k1, l1, true, l2, c1, k3, l3, k4, l4, c2, c3, a, s, mv, f1, v1, .pointer (some ⟨w.heap.size + 1, 2, none⟩), v2, f3, v3, f4, v4, r1, r2, r3, x, t17, p17, n17, z17, t27, p27, n27, z27, t37, p37, n37, z37, g, rfl, rfl, hmv, hf1, hv1, fun _ => rfl, hv2, hf3, hv3, hf4, hv4, H.out⟩
        · obtain rfl := (Option.some.inj hio)
          replace h0 : l2 = false := by simpa using h0
          have hd0 : k2 = true := by simpa [Region.binds] using hd ⟨3, .data⟩ (by simp)
          clear hd
          refine wpOp_step rfl (fun K' hK0 => ?_)
          have hK := (show Hid _ from hK0)
          clear hK0
          obtain rfl := hf2 hd0
          have hC := hU.later H.out.bel
          have z0 := hC.b.c2
          have z1 := hC.b.c3
          go_wp2
          exact hK.out _ _ ⟨m0, k1, l1, k2, true, c1, k3, l3, k4, l4, c2, c3, a, s, mv, f1, v1, _, .agg #[.bool tb', .slice qb' mb' mbc'], f3, v3, f4, v4, r1, r2, r3, x, t17, p17, n17, z17, t27, p27, n27, z27, t37, p37, n37, z37, g, rfl, rfl, hmv, hf1, hv1, fun _ => rfl, fun _ => rfl, hf3, hv3, hf4, hv4, H.out⟩
        · obtain rfl := (Option.some.inj hio)
          replace h0 : c1 = false := by simpa using h0
          have hd0 : l1 = true := by simpa [Region.binds] using hd ⟨2, .data⟩ (by simp)
          have hd1 : l2 = true := by simpa [Region.binds] using hd ⟨4, .data⟩ (by simp)
          clear hd
          refine wpOp_step rfl (fun K' hK0 => ?_)
          have hK := (show Hid _ from hK0)
          clear hK0
          obtain rfl := hv1 hd0
          obtain rfl := hv2 hd1
          have hC := hU.later H.out.bel
          have hfr := Mul_small sa' tb' pa' qb' na' nac' mb' mbc' xa' yb' w' hC.an hC.bd (.inl (by omega))
          go_wp2_with fail
          refine hfr.mono ?_
          rintro e w'' ⟨tt, pp, nn, zz, rfl, q1, q2, q3⟩
          have H2 := H.out.call1 q3 q1 (by omega)
          clear hfr
          go_wp2
          exact hK.out _ _ ⟨m0, k1, l1, k2, l2, true, k3, l3, k4, l4, c2, c3, a, s, mv, f1, _, f2, _, f3, v3, f4, v4, .agg #[.bool tt, .slice pp nn nn], r2, r3, x, tt, pp, nn, zz, t27, p27, n27, z27, t37, p37, n37, z37, g, rfl, rfl, hmv, hf1, fun _ => rfl, hf2, fun _ => rfl, hf3, hv3, hf4, hv4, H2⟩
        · obtain rfl := (Option.some.inj hio)
          replace h0 : k3 = false := by simpa using h0
          clear hd
          refine wpOp_step rfl (fun K' hK0 => ?_)
          have hK := (show Hid _ from hK0)
          clear hK0
          go_wp2
          exact hK.out _ _ ⟨m0, k1, l1, k2, l2, c1, true, l3, k4, l4, c2, c3, a, s, mv, f1, v1, f2, v2, .pointer (some ⟨w.heap.size + 1, 0, none⟩), v3, f4, v4, r1, r2, r3, x, t17, p17, n17, z17, t27, p27, n27, z27, t37, p37, n37, z37, g, rfl, rfl, hmv, hf1, hv1, hf2, hv2, fun _ => rfl, hv3, hf4, hv4, H.out⟩
        · obtain rfl := (Option.some.inj hio)
          replace h0 : l3 = false := by simpa using h0
          have hd0 : k3 = true := by simpa [Region.binds] using hd ⟨6, .data⟩ (by simp)
          clear hd
          refine wpOp_step rfl (fun K' hK0 => ?_)
          have hK := (show Hid _ from hK0)
          clear hK0
          obtain rfl := hf3 hd0
          have hC := hU.later H.out.bel
          have z0 := hC.b.c0
          have z1 := hC.b.c1
          go_wp2
          exact hK.out _ _ ⟨m0, k1, l1, k2, l2, c1, k3, true, k4, l4, c2, c3, a, s, mv, f1, v1, f2, v2, _, .agg #[.bool sb', .slice pb' nb' nbc'], f4, v4, r1, r2, r3, x, t17, p17, n17, z17, t27, p27, n27, z27, t37, p37, n37, z37, g, rfl, rfl, hmv, hf1, hv1, hf2, hv2, fun _ => rfl, fun _ => rfl, hf4, hv4, H.out⟩
        · obtain rfl := (Option.some.inj hio)
          replace h0 : k4 = false := by simpa using h0
          clear hd
          refine wpOp_step rfl (fun K' hK0 => ?_)
          have hK := (show Hid _ from hK0)
          clear hK0
          go_wp2
          exact hK.out _ _ ⟨m0, k1, l1, k2, l2, c1, k3, l3, true, l4, c2, c3, a, s, mv, f1, v1, f2, v2, f3, v3, .pointer (some ⟨w.heap.size, 2, none⟩), v4, r1, r2, r3, x, t17, p17, n17, z17, t27, p27, n27, z27, t37, p37, n37, z37, g, rfl, rfl, hmv, hf1, hv1, hf2, hv2, hf3, hv3, fun _ => rfl, hv4, H.out⟩
        · obtain rfl := (Option.some.inj hio)
          replace h0 : l4 = false := by simpa using h0
          have hd0 : k4 = true := by simpa [Region.binds] using hd ⟨8, .data⟩ (by simp)
          clear hd
          refine wpOp_step rfl (fun K' hK0 => ?_)
          have hK := (show Hid _ from hK0)
          clear hK0
          obtain rfl := hf4 hd0
          have hC := hU.later H.out.bel
          have z0 := hC.a.c2
          have z1 := hC.a.c3
          go_wp2
          exact hK.out _ _ ⟨m0, k1, l1, k2, l2, c1, k3, l3, k4, true, c2, c3, a, s, mv, f1, v1, f2, v2, f3, v3, _, .agg #[.bool ta', .slice qa' ma' mac'], r1, r2, r3, x, t17, p17, n17, z17, t27, p27, n27, z27, t37, p37, n37, z37, g, rfl, rfl, hmv, hf1, hv1, hf2, hv2, hf3, hv3, fun _ => rfl, fun _ => rfl, H.out⟩
        · obtain rfl := (Option.some.inj hio)
          replace h0 : c2 = false := by simpa using h0
          have hd0 : l3 = true := by simpa [Region.binds] using hd ⟨7, .data⟩ (by simp)
          have hd1 : l4 = true := by simpa [Region.binds] using hd ⟨9, .data⟩ (by simp)
          clear hd
          refine wpOp_step rfl (fun K' hK0 => ?_)
          have hK := (show Hid _ from hK0)
          clear hK0
          obtain rfl := hv3 hd0
          obtain rfl := hv4 hd1
          have hC := hU.later H.out.bel
          have hfr := Mul_small sb' ta' pb' qa' nb' nbc' ma' mac' xb' ya' w' hC.bn hC.ad (.inl (by omega))
          go_wp2_with fail
          refine hfr.mono ?_
          rintro e w'' ⟨tt, pp, nn, zz, rfl, q1, q2, q3⟩
          have H2 := H.out.call2 q3 q1 (by omega)
          clear hfr
          go_wp2
          exact hK.out _ _ ⟨m0, k1, l1, k2, l2, c1, k3, l3, k4, l4, true, c3, a, s, mv, f1, v1, f2, v2, f3, _, f4, _, r1, .agg #[.bool tt, .slice pp nn nn], r3, x, t17, p17, n17, z17, tt, pp, nn, zz, t37, p37, n37, z37, g, rfl, rfl, hmv, hf1, hv1, hf2, hv2, hf3, fun _ => rfl, hf4, fun _ => rfl, H2⟩
        · obtain rfl := (Option.some.inj hio)
          replace h0 : c3 = false := by simpa using h0
          have hd0 : m0 = true := by simpa [Region.binds] using hd ⟨0, .data⟩ (by simp)
          have hd1 : c1 = true := by simpa [Region.binds] using hd ⟨5, .data⟩ (by simp)
          have hd2 : c2 = true := by simpa [Region.binds] using hd ⟨10, .data⟩ (by simp)
          clear hd
          refine wpOp_step rfl (fun K' hK0 => ?_)
          have hK := (show Hid _ from hK0)
          clear hK0
          have hs0 : s = false := by
            cases s with
            | false => rfl
            | true => exact absurd (H.out.o rfl) (by rw [h0]; decide)
          obtain rfl := hmv hd0
          obtain ⟨rfl, m1, m2⟩ := H.out.M1 hd1 hs0
          obtain ⟨rfl, m3, m4⟩ := H.out.M2 hd2 hs0
          have hfr := HJ.out t17 t27 p17 p27 n17 n27 z17 z27 _ _ _ w' (by omega) (by omega) m1 m3
          go_wp2_with fail
          rw [HE.out]
          refine hfr.mono ?_
          rintro e w'' ⟨tt, pp, nn, zz, rfl, q1, q3⟩
          have q2 : nn ≤ Ka + Kb + 1 := q1.le (sum_bd (HOP.out _ _) (m1.abs_lt m2) (m3.abs_lt m4))
          have H2 := H.out.call3 (by rw [h0]; decide) q3 q1 q2
          clear hfr
          go_wp2
          exact hK.out _ _ ⟨m0, k1, l1, k2, l2, c1, k3, l3, k4, l4, c2, true, a, s, _, f1, v1, f2, v2, f3, v3, f4, v4, _, _, .agg #[.bool tt, .slice pp nn nn], x, t17, p17, n17, z17, t27, p27, n27, z27, tt, pp, nn, zz, g, rfl, rfl, fun _ => rfl, hf1, hv1, hf2, hv2, hf3, hv3, hf4, hv4, H2⟩
        · obtain rfl := (Option.some.inj hio)
          replace h0 : a = false := by simpa using h0
          clear hd
          refine wpOp_step rfl (fun K' hK0 => ?_)
          have hK := (show Hid _ from hK0)
          clear hK0
          have H2 := H.out.alloc (by rw [h0]; decide) (.bool false) (.slice none 0 0) 24
          go_wp2
          exact hK.out _ _ ⟨m0, k1, l1, k2, l2, c1, k3, l3, k4, l4, c2, c3, true, s, mv, f1, v1, f2, v2, f3, v3, f4, v4, r1, r2, r3, .pointer (some ⟨w'.heap.size, 0, none⟩), t17, p17, n17, z17, t27, p27, n27, z27, t37, p37, n37, z37, w'.heap.size, rfl, rfl, hmv, hf1, hv1, hf2, hv2, hf3, hv3, hf4, hv4, H2⟩
        · obtain rfl := (Option.some.inj hio)
          replace h0 : s = false := by simpa using h0
          have hd0 : a = true := by simpa [Region.binds] using hd ⟨12, .data⟩ (by simp)
          have hd1 : c3 = true := by simpa [Region.binds] using hd ⟨11, .data⟩ (by simp)
          clear hd
          refine wpOp_step rfl (fun K' hK0 => ?_)
          have hK := (show Hid _ from hK0)
          clear hK0
          have H2 := H.out.store hd0 hd1
          obtain ⟨y1, y2, yu, yv, y3, y4⟩ := H.out.X hd0
          obtain ⟨z0, z1, z2, z3⟩ := y3
          have hr := (H.out.M3 hd1).1
          subst y1 hr
          go_wp2
          exact hK.out _ _ ⟨m0, k1, l1, k2, l2, c1, k3, l3, k4, l4, c2, c3, a, true, mv, f1, v1, f2, v2, f3, v3, f4, v4, r1, r2, _, _, t17, p17, n17, z17, t27, p27, n27, z27, t37, p37, n37, z37, g, rfl, rfl, hmv, hf1, hv1, hf2, hv2, hf3, hv3, hf4, hv4, H2⟩
        · omega
      · refine ⟨false, false, false, false, false, false, false, false, false, false, false, false, false, false, _, _, _, _, _, _, _, _, _, _, _, _, _, false, none, 0, [], false, none, 0, [], false, none, 0, [], 0, rfl, rfl, nofun, nofun, nofun, nofun, nofun, nofun, nofun, nofun, nofun, ?_⟩
        exact ⟨(Below.refl _ _).drew, nofun, nofun, nofun, nofun, nofun, nofun, nofun⟩
    case rest =>
      obtain ⟨g, s, p, n, z, rfl, hU3, hR3, hg3, hN3, hn3, hgl, hb3⟩ := hcut
      have hne : g ≠ w.heap.size + 1 + 1 := by have := hR.lt; omega
      have hne' := hne.symm
      clear hU hR
      have a0 := hU3.a.c0
      have a1 := hU3.a.c1
      have a2 := hU3.a.c2
      have a3 := hU3.a.c3
      have b0 := hU3.b.c0
      have b1 := hU3.b.c1
      have b2 := hU3.b.c2
      have b3 := hU3.b.c3
      have g0 := hg3.c0
      have g1 := hg3.c1
      have sl : g < wc.heap.size := block_lt_of_cell g0
      go_wp2_with fail
      go_region_held3 (fun w' => w'.cell? ⟨w.heap.size, 2, none⟩ = some (.bool ta') ∧ w'.cell? ⟨w.heap.size, 3, none⟩ = some (.slice qa' ma' mac') ∧ w'.cell? ⟨w.heap.size + 1, 2, none⟩ = some (.bool tb') ∧ w'.cell? ⟨w.heap.size + 1, 3, none⟩ = some (.slice qb' mb' mbc') ∧ w'.cell? ⟨g, 0, none⟩ = some (.bool s) ∧ w'.cell? ⟨g, 1, none⟩ = some (.slice p n n)) (first | with_reducible exact ⟨a2, a3, b2, b3, g0, g1⟩ | with_reducible exact keepc6 ⟨a2, a3, b2, b3, g0, g1⟩ (hV2) | with_reducible exact keepc6 ⟨a2, a3, b2, b3, g0, g1⟩ (hV4) | (simp [go_sem, *]; done))
        (first
          | (go_at_call 24; refine (Mul_small ta' tb' qa' qb' ma' mac' mb' mbc' ya' yb' _ hU3.ad.drew hU3.bd.drew (.inl (by omega))).mono ?_; rintro e v2 ⟨s2, p2, n2, z2, rfl, hN2, hn2, hv2⟩; have hV2 := undrew hv2)
          | (go_at_call 25; refine (lowest_any s s2 p p2 n n n2 n2 z z2 _ ((hN3.below hV2).ai (by omega)) (hN2.ai (by omega)) (by rw [hN2.v]; have := Int.mul_pos HVa.out.2 HVb.out.2; omega) (by omega) (by omega)).mono ?_; rintro e v4 ⟨s4, p4, n4, x4, t4, q4, m4, y4, rfl, hN4, hv4⟩; have hV4 := bnext' hV2 hv4; have hR4 := hR3.later hV4; obtain ⟨r0, r1, r2, r3, f0, f1, f2, f3⟩ := hR4))
      have HE2 : Rat.divInt (ival s z) (ival s2 z2) = Z := by
        rw [hN3.v, hN2.v]
        exact HZ.out _ _ _ _ HVa.out.2 HVb.out.2 (HVa.out.1.trans HQa.out.symm) (HVb.out.1.trans HQb.out.symm)
      clear a0 a1 a2 a3 b0 b1 b2 b3 g0 g1
      go_wp2
      exact bodyPost_ret (v := .agg #[.bool s4, .slice p4 n4 n4, .bool t4, .slice q4 m4 m4]) (by simp [results, Tryd.results26, go_sem, r0, r1, r2, r3]) rfl (end_nr (hU3.bel.trans (hV2.mono hU3.bel.size)) (by omega) (by have := hR3.lt; have := hV2.size; omega) (hN4.of HE2) hv4)
theorem callAdd (args : Array Value) (w' : World) : Sem.run Tryd.prog (callFunc 27 args) w' = .ok (.enter 27 args) w' := by
  have h1 : ¬ Tryd.f27.name = "runtime.NumGoroutine" := of_decide_eq_false (by kernel_rfl)
  have h2 : ¬ Tryd.f27.body = none := fun h => by cases h
  simp only [callFunc, Tryd.func27, go_sem]
  simp [h1, h2, go_sem]
theorem callSub (args : Array Value) (w' : World) : Sem.run Tryd.prog (callFunc 30 args) w' = .ok (.enter 30 args) w' := by
  have h1 : ¬ Tryd.f30.name = "runtime.NumGoroutine" := of_decide_eq_false (by kernel_rfl)
  have h2 : ¬ Tryd.f30.body = none := fun h => by cases h
  simp only [callFunc, Tryd.func30, go_sem]
  simp [h1, h2, go_sem]
set_option maxRecDepth 100000 in
set_option maxHeartbeats 2000000 in
/-- rat.Add. -/
theorem qAdd_any (sa ta sb tb : Bool) (pa qa pb qb : Option Addr) (na nac ma mac nb nbc mb mbc : Nat) (xa ya xb yb : List Int) (w : World) (hA : AI w pa na nac xa) (hA' : AI w qa ma mac ya) (hB : AI w pb nb nbc xb) (hB' : AI w qb mb mbc yb) (Ka Kb : Nat) (hKa : 1 ≤ Ka) (hKb : 1 ≤ Kb) (hK : Ka + Kb + 2 ≤ 80) (la : na ≤ Ka) (la' : ma ≤ Ka) (lb : nb ≤ Kb) (lb' : mb ≤ Kb) :
    Calls Tryd.prog 9 #[.agg #[.bool sa, .slice pa na nac, .bool ta, .slice qa ma mac], .agg #[.bool sb, .slice pb nb nbc, .bool tb, .slice qb mb mbc]] w (NrPost (Rat.divInt (ival sa xa) (ival ta ya) + Rat.divInt (ival sb xb) (ival tb yb)) w) := by
  have HC : ∀ w', AI w' pa na nac xa → AI w' qa ma mac ya → AI w' pb nb nbc xb → AI w' qb mb mbc yb → Calls Tryd.prog 26 #[.agg #[.bool sa, .slice pa na nac, .bool ta, .slice qa ma mac], .agg #[.bool sb, .slice pb nb nbc, .bool tb, .slice qb mb mbc], .func (.func 27) #[] #[]] w' (NrPost (Rat.divInt (ival sa xa) (ival ta ya) + Rat.divInt (ival sb xb) (ival tb yb)) w') := by
    intro w' h1 h2 h3 h4
    refine combine_any sa ta sb tb pa qa pb qb na nac ma mac nb nbc mb mbc xa ya xb yb w' h1 h2 h3 h4 Ka Kb hKa hKb hK la la' lb lb' 27 callAdd (fun x y => x + y) (fun x y => by show (x + y).natAbs ≤ _; omega) ?_ _ ?_
    · intro s t p q n m xs ys x y B w' hn hm hx hy
      refine (Add_any s t p q n n m m xs ys w' (hx.ai (by omega)) (hy.ai (by omega))).mono ?_
      rintro e w'' ⟨s', p', n', zs, he, hN, hn', hb⟩
      rw [hx.v, hy.v] at hN
      exact ⟨s', p', n', zs, he, hN, hb⟩
    · intro a b c d hb hd ha hc
      rw [← ha, ← hc, Rat.divInt_add_divInt _ _ (by omega) (by omega)]
  generalize Rat.divInt (ival sa xa) (ival ta ya) + Rat.divInt (ival sb xb) (ival tb yb) = Z at *
  go_enter Tryd.func9, Tryd.ntmps9
  go_wp2_with fail
  have hR0 : Bq (((w.alloc (.cells #[.bool sa, .slice pa na nac, .bool ta, .slice qa ma mac] 26)).alloc (.cells #[.bool sb, .slice pb nb nbc, .bool tb, .slice qb mb mbc] 26)).alloc (.cells #[.bool false, .slice none 0 0, .bool false, .slice none 0 0] 26)) (w.heap.size + 1 + 1) (.bool false) (.slice none 0 0) (.bool false) (.slice none 0 0) := Bq.new _ _ _ _ _ (by simp)
  have hW : Below w.heap.size w (((w.alloc (.cells #[.bool sa, .slice pa na nac, .bool ta, .slice qa ma mac] 26)).alloc (.cells #[.bool sb, .slice pb nb nbc, .bool tb, .slice qb mb mbc] 26)).alloc (.cells #[.bool false, .slice none 0 0, .bool false, .slice none 0 0] 26)) := (((Below.refl _ _).alloc (Nat.le_refl _) _).alloc (by simp) _).alloc (by simp; omega) _
  generalize ((w.alloc (.cells #[.bool sa, .slice pa na nac, .bool ta, .slice qa ma mac] 26)).alloc (.cells #[.bool sb, .slice pb nb nbc, .bool tb, .slice qb mb mbc] 26)).alloc (.cells #[.bool false, .slice none 0 0, .bool false, .slice none 0 0] 26) = W at *
  refine (HC W (hA.below hW) (hA'.below hW) (hB.below hW) (hB'.below hW)).mono ?_
  rintro e w3 ⟨s3, p3, n3, x3, t3, q3, m3, y3, rfl, hN3, hb3⟩
  have sR := hR0.lt
  obtain ⟨r0, r1, r2, r3, f0, f1, f2, f3⟩ := hR0.later hb3
  clear HC
  go_wp2
  exact bodyPost_ret (v := .agg #[.bool s3, .slice p3 n3 n3, .bool t3, .slice q3 m3 m3]) (by simp [results, Tryd.results9, go_sem, r0, r1, r2, r3]) rfl (end_nr hW (by omega) sR hN3 hb3)
set_option maxRecDepth 100000 in
set_option maxHeartbeats 2000000 in
/-- rat.Sub. -/
theorem qSub_any (sa ta sb tb : Bool) (pa qa pb qb : Option Addr) (na nac ma mac nb nbc mb mbc : Nat) (xa ya xb yb : List Int) (w : World) (hA : AI w pa na nac xa) (hA' : AI w qa ma mac ya) (hB : AI w pb nb nbc xb) (hB' : AI w qb mb mbc yb) (Ka Kb : Nat) (hKa : 1 ≤ Ka) (hKb : 1 ≤ Kb) (hK : Ka + Kb + 2 ≤ 80) (la : na ≤ Ka) (la' : ma ≤ Ka) (lb : nb ≤ Kb) (lb' : mb ≤ Kb) :
    Calls Tryd.prog 16 #[.agg #[.bool sa, .slice pa na nac, .bool ta, .slice qa ma mac], .agg #[.bool sb, .slice pb nb nbc, .bool tb, .slice qb mb mbc]] w (NrPost (Rat.divInt (ival sa xa) (ival ta ya) - Rat.divInt (ival sb xb) (ival tb yb)) w) := by
  have HC : ∀ w', AI w' pa na nac xa → AI w' qa ma mac ya → AI w' pb nb nbc xb → AI w' qb mb mbc yb → Calls Tryd.prog 26 #[.agg #[.bool sa, .slice pa na nac, .bool ta, .slice qa ma mac], .agg #[.bool sb, .slice pb nb nbc, .bool tb, .slice qb mb mbc], .func (.func 30) #[] #[]] w' (NrPost (Rat.divInt (ival sa xa) (ival ta ya) - Rat.divInt (ival sb xb) (ival tb yb)) w') := by
    intro w' h1 h2 h3 h4
    refine combine_any sa ta sb tb pa qa pb qb na nac ma mac nb nbc mb mbc xa ya xb yb w' h1 h2 h3 h4 Ka Kb hKa hKb hK la la' lb lb' 30 callSub (fun x y => x - y) (fun x y => by show (x - y).natAbs ≤ _; omega) ?_ _ ?_
    · intro s t p q n m xs ys x y B w' hn hm hx hy
      refine (Sub_any s t p q n n m m xs ys w' (hx.ai (by omega)) (hy.ai (by omega))).mono ?_
      rintro e w'' ⟨s', p', n', zs, he, hN, hn', hb⟩
      rw [hx.v, hy.v] at hN
      exact ⟨s', p', n', zs, he, hN, hb⟩
    · intro a b c d hb hd ha hc
      rw [← ha, ← hc, Rat.divInt_sub_divInt _ _ (by omega) (by omega)]
  generalize Rat.divInt (ival sa xa) (ival ta ya) - Rat.divInt (ival sb xb) (ival tb yb) = Z at *
  go_enter Tryd.func16, Tryd.ntmps16
  go_wp2_with fail
  have hR0 : Bq (((w.alloc (.cells #[.bool sa, .slice pa na nac, .bool ta, .slice qa ma mac] 26)).alloc (.cells #[.bool sb, .slice pb nb nbc, .bool tb, .slice qb mb mbc] 26)).alloc (.cells #[.bool false, .slice none 0 0, .bool false, .slice none 0 0] 26)) (w.heap.size + 1 + 1) (.bool false) (.slice none 0 0) (.bool false) (.slice none 0 0) := Bq.new _ _ _ _ _ (by simp)
  have hW : Below w.heap.size w (((w.alloc (.cells #[.bool sa, .slice pa na nac, .bool ta, .slice qa ma mac] 26)).alloc (.cells #[.bool sb, .slice pb nb nbc, .bool tb, .slice qb mb mbc] 26)).alloc (.cells #[.bool false, .slice none 0 0, .bool false, .slice none 0 0] 26)) := (((Below.refl _ _).alloc (Nat.le_refl _) _).alloc (by simp) _).alloc (by simp; omega) _
  generalize ((w.alloc (.cells #[.bool sa, .slice pa na nac, .bool ta, .slice qa ma mac] 26)).alloc (.cells #[.bool sb, .slice pb nb nbc, .bool tb, .slice qb mb mbc] 26)).alloc (.cells #[.bool false, .slice none 0 0, .bool false, .slice none 0 0] 26) = W at *
  refine (HC W (hA.below hW) (hA'.below hW) (hB.below hW) (hB'.below hW)).mono ?_
  rintro e w3 ⟨s3, p3, n3, x3, t3, q3, m3, y3, rfl, hN3, hb3⟩
  have sR := hR0.lt
  obtain ⟨r0, r1, r2, r3, f0, f1, f2, f3⟩ := hR0.later hb3
  clear HC
  go_wp2
  exact bodyPost_ret (v := .agg #[.bool s3, .slice p3 n3 n3, .bool t3, .slice q3 m3 m3]) (by simp [results, Tryd.results16, go_sem, r0, r1, r2, r3]) rfl (end_nr hW (by omega) sR hN3 hb3)
end Go.Proofs.YtongkalfdgleaaaDoor
/-
  rat.Of, Whole, Bits, Text.
-/
namespace Go.Proofs.YtongkalfdgleaaaDoor
open Go.RowKit
set_option linter.unusedVariables false
set_option linter.unusedSimpArgs false

set_option maxRecDepth 100000 in
set_option maxHeartbeats 2000000 in
/-- rat.Of. -/
theorem qOf_any (a b : Int) (w : World) (ha : -9223372036854775808 ≤ a) (ha' : a ≤ 9223372036854775807) (hb : -9223372036854775808 ≤ b) (hb' : b ≤ 9223372036854775807) (c : Int) (hc : (if b = 0 then (2 : Int) else 0) = c) :
    Calls Tryd.prog 18 #[.int .i64 a, .int .i64 b] w (NcPost (Rat.divInt a b) c w) := by
  have HC := (show Hid _ from hc)
  clear hc
  generalize hQ : Rat.divInt a b = Q
  have HQ := (show Hid _ from hQ)
  clear hQ
  go_enter Tryd.func18, Tryd.ntmps18
  go_wp2_with fail
  have hR : Bq (w.alloc (.cells #[.bool false, .slice none 0 0, .bool false, .slice none 0 0] 26)) w.heap.size (.bool false) (.slice none 0 0) (.bool false) (.slice none 0 0) := Bq.new _ _ _ _ _ rfl
  have hW : Below w.heap.size w (w.alloc (.cells #[.bool false, .slice none 0 0, .bool false, .slice none 0 0] 26)) := (Below.refl _ _).alloc (Nat.le_refl _) _
  generalize w.alloc (.cells #[.bool false, .slice none 0 0, .bool false, .slice none 0 0] 26) = W at *
  refine (Of_any a _ ha ha').mono ?_
  rintro e w1 ⟨s1, p1, n1, x1, rfl, hN1, hn1, hb1⟩
  go_wp2_with fail
  refine (Of_any b _ hb hb').mono ?_
  rintro e w2 ⟨s2, p2, n2, x2, rfl, hN2, hn2, hb2⟩
  have hc2 : (if ival s2 x2 = 0 then (2 : Int) else 0) = c := by rw [hN2.v]; exact HC.out
  have h3 := Over_of s1 s2 p1 p2 n1 n1 n2 n2 x1 x2 w2 ((hN1.below hb2).ai (by omega)) (hN2.ai (by omega)) (by omega) (by omega) c hc2
  rw [hN1.v, hN2.v, HQ.out] at h3
  clear hc2
  go_wp2_with fail
  refine h3.mono ?_
  rintro e w3 ⟨s3, p3, n3, x3, t3, q3, m3, y3, rfl, hN3, hb3⟩
  clear h3
  have hb12 := bnext' hb1 hb2
  have sR : w.heap.size < w2.heap.size := Nat.lt_of_lt_of_le hR.lt hb12.size
  obtain ⟨r0, r1, r2, r3, f0, f1, f2, f3⟩ := (hR.later hb12).later hb3
  go_wp2
  exact bodyPost_ret (v := .tuple #[.agg #[.bool s3, .slice p3 n3 n3, .bool t3, .slice q3 m3 m3], .int .i64 c]) (by simp [results, Tryd.results18, go_sem, r0, r1, r2, r3]) rfl (end_nc (bnext' hW hb12) (by omega) sR hN3 hb3)
theorem whole_iff (a b q r : Int) (hb : b ≠ 0) (h : q * b + r = a) (h0 : 0 ≤ r) (h1 : r < (b.natAbs : Int)) : (r = 0 ∧ (Rat.divInt a b).den = 1 ∧ (Rat.divInt a b).num = q) ∨ (r ≠ 0 ∧ (Rat.divInt a b).den ≠ 1) := by
  obtain ⟨g, -, hg, e1, e2⟩ := rat_low a b hb
  by_cases hr : r = 0
  · left
    have h2 : Rat.divInt a b = Rat.divInt q 1 := by
      rw [Rat.divInt_eq_divInt_iff hb (by decide)]
      omega
    rw [h2]
    exact ⟨hr, by rw [Rat.den_divInt]; simp, by rw [Rat.num_divInt]; simp⟩
  · right
    refine ⟨hr, fun hd => ?_⟩
    rw [hd] at e2
    have e3 : a = (Rat.divInt a b).num * b := by
      have e4 : b = g := by omega
      conv => lhs; rw [e1]
      rw [← e4]
    exact hr (ediv_one a q b r _ h.symm h0 h1 e3).2
theorem rat_bd {a b : Int} {K : Nat} (ha : (a.natAbs : Int) < pw K) (hb : (b.natAbs : Int) < pw K) (hK : 1 ≤ K) : ((Rat.divInt a b).num.natAbs : Int) < pw K ∧ (((Rat.divInt a b).den : Int).natAbs : Int) < pw K := by
  have h1 := rat_num_le a b
  refine ⟨by omega, ?_⟩
  by_cases h : b = 0
  · subst h
    rw [Rat.divInt_zero]
    have h2 := pw_mono hK
    have h3 : pw 1 = 4294967296 := by decide
    show ((1 : Nat) : Int) < _
    omega
  · have h2 := rat_den_le a b h
    omega
theorem NI.bits {B : Nat} {w : World} {s : Bool} {p : Option Addr} {n : Nat} {xs : List Int} {z : Int} (h : NI B w s p n xs z) (hn : n ≤ 100) : ∃ b : Nat, nbits xs = (b : Int) ∧ IB b (z.natAbs : Int) ∧ b ≤ 3200 := by
  obtain ⟨b, h1, h2⟩ := nbits_ib h.u
  have hv : (z.natAbs : Int) = val xs := by
    have := val_nonneg h.u
    rw [← h.v, ival]
    split <;> omega
  refine ⟨b, h1, by rw [hv]; exact h2, ?_⟩
  rcases Nat.lt_or_ge 3200 b with hc | hc
  · exfalso
    have h3 := h2.2.2
    rcases h3 with h3 | h3
    · omega
    · have h4 := p2_mono (show 3200 ≤ b - 1 by omega)
      have h5 := val_lt_tlen h.u
      rw [h.nrm, pw_p2] at h5
      have h6 := p2_mono (show 32 * n ≤ 3200 by omega)
      generalize (2 : Int) ^ 3200 = X at *
      generalize (2 : Int) ^ (b - 1) = Y at *
      generalize (2 : Int) ^ (32 * n) = Z at *
      omega
  · exact hc
/-- What Whole answers. -/
def WhPost (Q : Rat) (w : World) (e : Ending) (w' : World) : Prop :=
  ∃ s p n xs, ((Q.den = 1 ∧ e = .returned (.tuple #[.agg #[.bool s, .slice p n n], .bool true]) ∧ NI w.heap.size w' s p n xs Q.num) ∨ (Q.den ≠ 1 ∧ e = .returned (.tuple #[.agg #[.bool false, .slice none 0 0], .bool false]))) ∧ Below w.heap.size w w'
set_option maxRecDepth 100000 in
set_option maxHeartbeats 2000000 in
/-- rat.Whole. -/
theorem Whole_any (s t : Bool) (p q : Option Addr) (n nc m mc : Nat) (xs ys : List Int) (w : World) (hA : AI w p n nc xs) (hB : AI w q m mc ys) (hn : n ≤ 1000) (hm : m < 80) (hd : ival t ys ≠ 0) :
    Calls Tryd.prog 19 #[.agg #[.bool s, .slice p n nc, .bool t, .slice q m mc]] w (WhPost (Rat.divInt (ival s xs) (ival t ys)) w) := by
  have HD := (show Hid _ from hd)
  generalize hQ : Rat.divInt (ival s xs) (ival t ys) = Q
  have HQ := (show Hid _ from hQ)
  clear hQ hd
  go_enter Tryd.func19, Tryd.ntmps19
  go_wp2_with fail
  have hR : Bx ((w.alloc (.cells #[.bool s, .slice p n nc, .bool t, .slice q m mc] 26)).alloc (.cells #[.bool false, .slice none 0 0] 24)) (w.heap.size + 1) (.bool false) (.slice none 0 0) := Bx.new _ _ _ (by simp)
  have hW : Below w.heap.size w ((w.alloc (.cells #[.bool s, .slice p n nc, .bool t, .slice q m mc] 26)).alloc (.cells #[.bool false, .slice none 0 0] 24)) := ((Below.refl _ _).alloc (Nat.le_refl _) _).alloc (by simp) _
  generalize (w.alloc (.cells #[.bool s, .slice p n nc, .bool t, .slice q m mc] 26)).alloc (.cells #[.bool false, .slice none 0 0] 24) = W at *
  have hv0 : val ys ≠ 0 := by
    intro h
    apply HD.out
    rw [ival, h]
    simp
  refine (Quo_small s t p q n nc m mc xs ys _ (hA.below hW) (hB.below hW) (by omega) hm hv0).mono ?_
  rintro e w6 ⟨s6, p6, n6, z6, s7, p7, n7, z7, Q6, R7, rfl, hN6, hN7, h1, h2, h3, hn6, hn7, hb6⟩
  have hal := bel_al (o := .cells #[.bool s7, .slice p7 n7 n7] 24) (bel_al (o := .cells #[.bool s6, .slice p6 n6 n6] 24) hb6)
  have hR8 := hR.later hal
  have hW8 := bnext' hW hal
  have hN8 := NI_al (o := .cells #[.bool s7, .slice p7 n7 n7] 24) (NI_al (o := .cells #[.bool s6, .slice p6 n6 n6] 24) hN6)
  have hM8 := NI_al (o := .cells #[.bool s7, .slice p7 n7 n7] 24) (NI_al (o := .cells #[.bool s6, .slice p6 n6 n6] 24) hN7)
  have hq8 : Bx ((w6.alloc (.cells #[.bool s6, .slice p6 n6 n6] 24)).alloc (.cells #[.bool s7, .slice p7 n7 n7] 24)) w6.heap.size (.bool s6) (.slice p6 n6 n6) := (Bx.new _ _ _ rfl).alloc _
  have hr8 : Bx ((w6.alloc (.cells #[.bool s6, .slice p6 n6 n6] 24)).alloc (.cells #[.bool s7, .slice p7 n7 n7] 24)) (w6.heap.size + 1) (.bool s7) (.slice p7 n7 n7) := Bx.new _ _ _ (by simp)
  have hcs := whole_iff _ _ _ _ HD.out h1 h2 h3
  rw [HQ.out] at hcs
  have HCS := (show Hid _ from hcs)
  have sR : w.heap.size + 1 < W.heap.size := block_lt_of_cell hR.c0
  clear hal hR hN6 hN7 hcs h1 h2 h3 hv0 hb6
  go_wp2_with fail
  generalize (w6.alloc (.cells #[.bool s6, .slice p6 n6 n6] 24)).alloc (.cells #[.bool s7, .slice p7 n7 n7] 24) = W8 at *
  generalize w6.heap.size = g6 at *
  refine (Sign_any s7 p7 n7 n7 z7 _ (hM8.ai (by omega))).mono ?_
  rw [hM8.v]
  rintro e w9 ⟨rfl, hb9⟩
  obtain ⟨q0, q1, -, -⟩ := hq8.later hb9
  obtain ⟨r0, r1, f0, f1⟩ := hR8.later hb9
  have hW9 := bnext' hW8 hb9
  have hN9 := hN8.below hb9
  rcases HCS.out with ⟨rfl, c2, c3⟩ | ⟨c1, c2⟩
  · rw [isgn_zero rfl]
    have C2 := (show Hid _ from c2)
    have C3 := (show Hid _ from c3)
    clear c2 c3 HCS
    go_wp2
    refine bodyPost_ret (v := .tuple #[.agg #[.bool s6, .slice p6 n6 n6], .bool true]) (by simp [results, Tryd.results19, go_sem, r0, r1]) rfl ⟨s6, p6, n6, z6, .inl ⟨C2.out, rfl, ?_⟩, ?_⟩
    · rw [C3.out]
      exact ((hN9.set (a := ⟨w.heap.size + 1, 0, none⟩) sR _).set (a := ⟨w.heap.size + 1, 1, none⟩) sR _).mono hW.size
    · exact bset2 hW9 (by omega) _ _
  · have hi : isgn R7 = 1 ∨ isgn R7 = -1 := by
      rcases (show 0 < R7 ∨ R7 < 0 by omega) with h | h
      · exact .inl (isgn_pos h)
      · exact .inr (isgn_neg h)
    have C2 := (show Hid _ from c2)
    clear c1 c2 HCS
    rcases hi with hi | hi
    all_goals
      rw [hi]
      clear hi
      go_wp2
      exact bodyPost_ret (v := .tuple #[.agg #[.bool false, .slice none 0 0], .bool false]) (by simp [results, Tryd.results19, go_sem, r0, r1]) rfl ⟨false, none, 0, [], .inr ⟨C2.out, rfl⟩, bset2 hW9 (by omega) _ _⟩
set_option maxRecDepth 100000 in
set_option maxHeartbeats 2000000 in
/-- rat.Bits. -/
theorem qBits_any (s t : Bool) (p q : Option Addr) (n nc m mc : Nat) (xs ys : List Int) (w : World) (hA : AI w p n nc xs) (hB : AI w q m mc ys) (hn : n < 80) (hm : m < 80) :
    Calls Tryd.prog 21 #[.agg #[.bool s, .slice p n nc, .bool t, .slice q m mc]] w fun e w' => ∃ b c : Nat, e = .returned (.int .i64 ((b : Int) + c)) ∧ IB b ((Rat.divInt (ival s xs) (ival t ys)).num.natAbs : Int) ∧ IB c ((Rat.divInt (ival s xs) (ival t ys)).den : Int) ∧ Below w.heap.size w w' := by
  have hNo := fun w' h1 h2 => Norm_any s t p q n nc m mc xs ys w' h1 h2 hn hm
  have hbd := rat_bd (K := 80) (a := ival s xs) (b := ival t ys) (by have h1 := hA.lt s; have h2 := pw_mono (show n ≤ 80 by omega); omega) (by have h1 := hB.lt t; have h2 := pw_mono (show m ≤ 80 by omega); omega) (by decide)
  have HBD := (show Hid _ from hbd)
  clear hbd
  generalize Rat.divInt (ival s xs) (ival t ys) = Q at *
  go_enter Tryd.func21, Tryd.ntmps21
  go_wp2_with fail
  have hA0 : Bq (w.alloc (.cells #[.bool s, .slice p n nc, .bool t, .slice q m mc] 26)) w.heap.size (.bool s) (.slice p n nc) (.bool t) (.slice q m mc) := Bq.new _ _ _ _ _ rfl
  have hW : Below w.heap.size w (w.alloc (.cells #[.bool s, .slice p n nc, .bool t, .slice q m mc] 26)) := (Below.refl _ _).alloc (Nat.le_refl _) _
  generalize w.alloc (.cells #[.bool s, .slice p n nc, .bool t, .slice q m mc] 26) = W at *
  refine (hNo W (hA.below hW) (hB.below hW)).mono ?_
  rintro e w1 ⟨s1, p1, n1, x1, t1, q1, m1, y1, rfl, hN1, hb1⟩
  clear hNo
  have sR := hA0.lt
  have hBa := Bq_set (u := .bool s1) (v := .slice p1 n1 n1) (x := .bool t1) (y := .slice q1 m1 m1) (hA0.later hb1)
  have hNn := hN1.num.set4 sR (.bool s1) (.slice p1 n1 n1) (.bool t1) (.slice q1 m1 m1)
  have hNd := hN1.den.set4 sR (.bool s1) (.slice p1 n1 n1) (.bool t1) (.slice q1 m1 m1)
  have hW2 := bset4 (g := w.heap.size) (bnext' hW hb1) (Nat.le_refl _) (.bool s1) (.slice p1 n1 n1) (.bool t1) (.slice q1 m1 m1)
  obtain ⟨a0, a1, a2, a3, f0, f1, f2, f3⟩ := hA0.later hb1
  obtain ⟨c0, c1, c2, c3, -, -, -, -⟩ := hBa
  clear hA0 hN1
  have ln := hNn.le HBD.out.1
  have ld := hNd.le HBD.out.2
  clear HBD
  go_wp2_with fail
  generalize (((w1.setCell ⟨w.heap.size, 0, none⟩ (.bool s1)).setCell ⟨w.heap.size, 1, none⟩ (.slice p1 n1 n1)).setCell ⟨w.heap.size, 2, none⟩ (.bool t1)).setCell ⟨w.heap.size, 3, none⟩ (.slice q1 m1 m1) = W2 at *
  obtain ⟨b, hb, hB1, lb⟩ := hNn.bits (by omega)
  obtain ⟨c, hc, hC1, lc⟩ := hNd.bits (by omega)
  have v0 : IntKind.i64.wrap ((b : Int) + (c : Int)) = (b : Int) + (c : Int) := by rw [IntKind.wrap_i64]; omega
  go_region_held3 (fun w' => w'.cell? ⟨w.heap.size, 0, none⟩ = some (.bool s1) ∧ w'.cell? ⟨w.heap.size, 1, none⟩ = some (.slice p1 n1 n1) ∧ w'.cell? ⟨w.heap.size, 2, none⟩ = some (.bool t1) ∧ w'.cell? ⟨w.heap.size, 3, none⟩ = some (.slice q1 m1 m1)) (first | with_reducible exact ⟨c0, c1, c2, c3⟩ | with_reducible exact keepc4 ⟨c0, c1, c2, c3⟩ hV1 | with_reducible exact keepc4 ⟨c0, c1, c2, c3⟩ hV2 | (simp [go_sem, *]; done))
    (first
      | (go_at_call_of 36 (Value.agg #[.bool s1, .slice p1 n1 n1]); have h1 := Bits_any s1 p1 n1 n1 x1 W2.drew (hNn.drew.ai (by omega)); rw [hb] at h1; refine h1.mono ?_; rintro e v1 ⟨rfl, hv1⟩; clear h1; have hV1 := undrew hv1)
      | (go_at_call_of 36 (Value.agg #[.bool t1, .slice q1 m1 m1]); have h2 := Bits_any t1 q1 m1 m1 y1 _ ((hNd.below hV1).ai (by omega)); rw [hc] at h2; refine h2.mono ?_; rintro e v2 ⟨rfl, hv2⟩; clear h2; have hV2 := bnext' hV1 hv2))
  go_wp2
  go_ret
  exact ⟨b, c, rfl, hB1, by simpa using hC1, bnext' hW2 hV2⟩
/-- The text of a rational, of its parts' texts. -/
def tjoin (d : Nat) (t1 t2 : ByteArray) : ByteArray := if d = 1 then t1 else t1 ++ ⟨#[47]⟩ ++ t2
set_option maxRecDepth 100000 in
set_option maxHeartbeats 2000000 in
/-- rat.Text. -/
theorem qText_any (s t : Bool) (p q : Option Addr) (n nc m mc : Nat) (xs ys : List Int) (w : World) (hA : AI w p n nc xs) (hB : AI w q m mc ys) (hn : n < 80) (hm : m < 80) (Q : Rat) (hQ : Rat.divInt (ival s xs) (ival t ys) = Q) (t1 t2 : ByteArray) (z1 : t1.size ≤ 1000000000) (z2 : t2.size ≤ 1000000000)
    (hT1 : ∀ (B : Nat) (w' : World) (s' : Bool) (p' : Option Addr) (n' : Nat) (xs' : List Int), NI B w' s' p' n' xs' Q.num → n' < 80 → Calls Tryd.prog 35 #[.agg #[.bool s', .slice p' n' n']] w' fun e w'' => e = .returned (.string t1) ∧ Below w'.heap.size w' w'')
    (hT2 : Q.den ≠ 1 → ∀ (B : Nat) (w' : World) (s' : Bool) (p' : Option Addr) (n' : Nat) (xs' : List Int), NI B w' s' p' n' xs' (Q.den : Int) → n' < 80 → Calls Tryd.prog 35 #[.agg #[.bool s', .slice p' n' n']] w' fun e w'' => e = .returned (.string t2) ∧ Below w'.heap.size w' w'') :
    Calls Tryd.prog 20 #[.agg #[.bool s, .slice p n nc, .bool t, .slice q m mc]] w fun e w' => e = .returned (.string (tjoin Q.den t1 t2)) ∧ Below w.heap.size w w' := by
  have hNo := fun w' h1 h2 => Norm_any s t p q n nc m mc xs ys w' h1 h2 hn hm
  have hbd := rat_bd (K := 79) (a := ival s xs) (b := ival t ys) (by have h1 := hA.lt s; have h2 := pw_mono (show n ≤ 79 by omega); omega) (by have h1 := hB.lt t; have h2 := pw_mono (show m ≤ 79 by omega); omega) (by decide)
  rw [hQ] at hbd hNo
  have HBD := (show Hid _ from hbd)
  have HT1 := (show Hid _ from hT1)
  have HT2 := (show Hid _ from hT2)
  clear hbd hQ hT1 hT2
  generalize htj : tjoin Q.den t1 t2 = tt
  have HTJ := (show Hid _ from htj)
  clear htj
  go_enter Tryd.func20, Tryd.ntmps20
  go_wp2_with fail
  have hA0 : Bq (w.alloc (.cells #[.bool s, .slice p n nc, .bool t, .slice q m mc] 26)) w.heap.size (.bool s) (.slice p n nc) (.bool t) (.slice q m mc) := Bq.new _ _ _ _ _ rfl
  have hW : Below w.heap.size w (w.alloc (.cells #[.bool s, .slice p n nc, .bool t, .slice q m mc] 26)) := (Below.refl _ _).alloc (Nat.le_refl _) _
  generalize w.alloc (.cells #[.bool s, .slice p n nc, .bool t, .slice q m mc] 26) = W at *
  refine (hNo W (hA.below hW) (hB.below hW)).mono ?_
  rintro e w1 ⟨s1, p1, n1, x1, u1, q1, m1, y1, rfl, hN1, hb1⟩
  clear hNo
  have sR := hA0.lt
  have hBa := Bq_set (u := .bool s1) (v := .slice p1 n1 n1) (x := .bool u1) (y := .slice q1 m1 m1) (hA0.later hb1)
  have hNn := hN1.num.set4 sR (.bool s1) (.slice p1 n1 n1) (.bool u1) (.slice q1 m1 m1)
  have hNd := hN1.den.set4 sR (.bool s1) (.slice p1 n1 n1) (.bool u1) (.slice q1 m1 m1)
  have hW2 := bset4 (g := w.heap.size) (bnext' hW hb1) (Nat.le_refl _) (.bool s1) (.slice p1 n1 n1) (.bool u1) (.slice q1 m1 m1)
  obtain ⟨a0, a1, a2, a3, f0, f1, f2, f3⟩ := hA0.later hb1
  obtain ⟨c0, c1, c2, c3, -, -, -, -⟩ := hBa
  clear hA0 hN1
  have ln := hNn.le HBD.out.1
  have ld := hNd.le HBD.out.2
  clear HBD
  go_wp2_with fail
  have hBa := Bq_set (u := .bool s1) (v := .slice p1 n1 n1) (x := .bool u1) (y := .slice q1 m1 m1) (show Bq w1 w.heap.size (.bool s) (.slice p n nc) (.bool t) (.slice q m mc) from ⟨a0, a1, a2, a3, f0, f1, f2, f3⟩)
  generalize (((w1.setCell ⟨w.heap.size, 0, none⟩ (.bool s1)).setCell ⟨w.heap.size, 1, none⟩ (.slice p1 n1 n1)).setCell ⟨w.heap.size, 2, none⟩ (.bool u1)).setCell ⟨w.heap.size, 3, none⟩ (.slice q1 m1 m1) = W2 at *
  clear a0 a1 a2 a3 f0 f1 f2 f3 c0 c1 c2 c3
  refine (HT1.out _ _ s1 p1 n1 x1 hNn (by omega)).mono ?_
  rintro e w3 ⟨rfl, hb3⟩
  obtain ⟨b, hb, hB1, lb⟩ := hNd.bits (by omega)
  obtain ⟨c0, c1, c2, c3, -, -, -, -⟩ := hBa.later hb3
  go_wp2_with fail
  have h2 := Bits_any u1 q1 m1 m1 y1 w3 ((hNd.below hb3).ai (by omega))
  rw [hb] at h2
  refine h2.mono ?_
  rintro e w4 ⟨rfl, hb4⟩
  clear h2
  have hW4 := bnext' (bnext' hW2 hb3) hb4
  clear c0 c1 c2 c3
  obtain ⟨c0, c1, c2, c3, -, -, -, -⟩ := (hBa.later hb3).later hb4
  have HB1 := (show Hid _ from hB1)
  clear hB1
  rcases Nat.decEq b 1 with h1 | h1
  · have h1' : ¬ ((b : Int) = 1) := by omega
    have hd : Q.den ≠ 1 := fun h => h1 (IB.uniq HB1.out (by rw [h]; exact ⟨by decide, by decide, by decide⟩))
    have HD := (show Hid _ from hd)
    clear hd
    go_wp2_with fail
    refine (HT2.out HD.out _ _ u1 q1 m1 y1 ((hNd.below hb3).below hb4) (by omega)).mono ?_
    rintro e w5 ⟨rfl, hb5⟩
    obtain rfl : tt = t1 ++ ⟨#[47]⟩ ++ t2 := by rw [← HTJ.out, tjoin, if_neg HD.out]
    clear c0 c1 c2 c3
    go_wp2
    go_ret
    exact ⟨rfl, bnext' hW4 hb5⟩
  · subst h1
    have hd : Q.den = 1 := by
      obtain ⟨e1, e2, e3⟩ := HB1.out
      simp at e2 e3
      omega
    obtain rfl : tt = t1 := by rw [← HTJ.out, tjoin, if_pos hd]
    go_wp2
    go_ret
    exact ⟨rfl, hW4⟩
end Go.Proofs.YtongkalfdgleaaaDoor
/-
  ashlarlaw2.begun is true.
-/
namespace Go.Proofs.YtongkalfdgleaaaDoor
open Go.RowKit
set_option linter.unusedVariables false
set_option linter.unusedSimpArgs false

/-- A text of one digit. -/
theorem text_pos {B : Nat} {w : World} {s : Bool} {p : Option Addr} {n : Nat} {xs : List Int} (d : Int) (h0 : 0 < d) (h9 : d < 10) (h : NI B w s p n xs d) (hn : n < 80) : Calls Tryd.prog 35 #[.agg #[.bool s, .slice p n n]] w fun e w' => e = .returned (.string ⟨#[UInt8.ofNat (48 + d).toNat]⟩) ∧ Below w.heap.size w w' := by
  obtain ⟨rfl, hv⟩ := ival_pos h.u h.v h0
  refine (Text_some false p n n xs w (h.ai (by omega)) (by omega) (by omega)).mono ?_
  rintro e w' ⟨N, D, h1, h2, h3, rfl, hb⟩
  rw [hv] at h1 h3
  rw [text_digit _ N D h0 h9 h1 h2 h3]
  exact ⟨rfl, hb⟩
theorem text_neg {B : Nat} {w : World} {s : Bool} {p : Option Addr} {n : Nat} {xs : List Int} (d : Int) (h0 : 0 < d) (h9 : d < 10) (h : NI B w s p n xs (-d)) (hn : n < 80) : Calls Tryd.prog 35 #[.agg #[.bool s, .slice p n n]] w fun e w' => e = .returned (.string ⟨#[45, UInt8.ofNat (48 + d).toNat]⟩) ∧ Below w.heap.size w w' := by
  obtain ⟨rfl, hv⟩ := ival_neg h.u h.v (by omega)
  rw [Int.neg_neg] at hv
  refine (Text_some true p n n xs w (h.ai (by omega)) (by omega) (by omega)).mono ?_
  rintro e w' ⟨N, D, h1, h2, h3, rfl, hb⟩
  rw [hv] at h1 h3
  rw [text_digit _ N D h0 h9 h1 h2 h3]
  exact ⟨rfl, hb⟩
/-- A rational in a variable of its own. -/
structure Vq (w : World) (g B : Nat) (s : Bool) (p : Option Addr) (n : Nat) (xs : List Int) (t : Bool) (q : Option Addr) (m : Nat) (ys : List Int) (r : Rat) : Prop where
  b : Bq w g (.bool s) (.slice p n n) (.bool t) (.slice q m m)
  r : NR B w s p n xs t q m ys r
  l : n ≤ 1
  l' : m ≤ 1
section
variable {w w' : World} {g B : Nat} {s : Bool} {p : Option Addr} {n : Nat} {xs : List Int} {t : Bool} {q : Option Addr} {m : Nat} {ys : List Int} {r : Rat}
theorem NR.below (h : NR B w s p n xs t q m ys r) (hb : Below w.heap.size w w') : NR B w' s p n xs t q m ys r := ⟨h.num.below hb, h.den.below hb⟩
theorem Vq.later (h : Vq w g B s p n xs t q m ys r) (hb : Below w.heap.size w w') : Vq w' g B s p n xs t q m ys r := ⟨h.b.later hb, h.r.below hb, h.l, h.l'⟩
theorem Vq.new (h : NR B w s p n xs t q m ys r) (h1 : r.num.natAbs ≤ 9) (h2 : r.den ≤ 9) (T : Nat) : Vq (w.alloc (.cells #[.bool s, .slice p n n, .bool t, .slice q m m] T)) w.heap.size B s p n xs t q m ys r := by
  have e : pw 1 = 4294967296 := by decide
  exact ⟨Bq.new _ _ _ _ _ rfl, h.below (bel_al (Below.refl _ _)), h.num.le (by omega), h.den.le (by omega)⟩
variable {B2 : Nat} {s2 : Bool} {p2 : Option Addr} {n2 : Nat} {x2 : List Int} {t2 : Bool} {q2 : Option Addr} {m2 : Nat} {y2 : List Int} {r2 : Rat}
theorem qAdd_nr (h : NR B w s p n xs t q m ys r) (k : NR B2 w s2 p2 n2 x2 t2 q2 m2 y2 r2) (Ka Kb : Nat) (hKa : 1 ≤ Ka) (hKb : 1 ≤ Kb) (hK : Ka + Kb + 2 ≤ 80) (la : n ≤ Ka) (la' : m ≤ Ka) (lb : n2 ≤ Kb) (lb' : m2 ≤ Kb) :
    Calls Tryd.prog 9 #[.agg #[.bool s, .slice p n n, .bool t, .slice q m m], .agg #[.bool s2, .slice p2 n2 n2, .bool t2, .slice q2 m2 m2]] w (NrPost (r + r2) w) := by
  have := qAdd_any s t s2 t2 p q p2 q2 n n m m n2 n2 m2 m2 xs ys x2 y2 w (h.num.ai (by omega)) (h.den.ai (by omega)) (k.num.ai (by omega)) (k.den.ai (by omega)) Ka Kb hKa hKb hK la la' lb lb'
  rwa [h.num.v, h.den.v, k.num.v, k.den.v, Rat.num_divInt_den, Rat.num_divInt_den] at this
theorem qQuo_nr (h : NR B w s p n xs t q m ys r) (k : NR B2 w s2 p2 n2 x2 t2 q2 m2 y2 r2) (Ka Kb : Nat) (hKa : 1 ≤ Ka) (hKb : 1 ≤ Kb) (hK : Ka + Kb + 1 ≤ 80) (la : n ≤ Ka) (la' : m ≤ Ka) (lb : n2 ≤ Kb) (lb' : m2 ≤ Kb) :
    Calls Tryd.prog 10 #[.agg #[.bool s, .slice p n n, .bool t, .slice q m m], .agg #[.bool s2, .slice p2 n2 n2, .bool t2, .slice q2 m2 m2]] w (NcPost (r / r2) (if r2 = 0 then 2 else 0) w) := by
  have := qQuo_any s t s2 t2 p q p2 q2 n n m m n2 n2 m2 m2 xs ys x2 y2 w (h.num.ai (by omega)) (h.den.ai (by omega)) (k.num.ai (by omega)) (k.den.ai (by omega)) Ka Kb hKa hKb hK la la' lb lb'
  rwa [h.num.v, h.den.v, k.num.v, k.den.v, Rat.num_divInt_den, Rat.num_divInt_den] at this
theorem qCmp_nr (h : NR B w s p n xs t q m ys r) (k : NR B2 w s2 p2 n2 x2 t2 q2 m2 y2 r2) (Ka Kb : Nat) (hKa : 1 ≤ Ka) (hKb : 1 ≤ Kb) (hK : Ka < 80 ∧ Kb ≤ 1000) (la : n ≤ Ka) (la' : m ≤ Ka) (lb : n2 ≤ Kb) (lb' : m2 ≤ Kb) :
    Calls Tryd.prog 7 #[.agg #[.bool s, .slice p n n, .bool t, .slice q m m], .agg #[.bool s2, .slice p2 n2 n2, .bool t2, .slice q2 m2 m2]] w fun e w' => e = .returned (.int .i64 (icmp (r.num * r2.den) (r2.num * r.den))) ∧ Below w.heap.size w w' := by
  have := qCmp_any s t s2 t2 p q p2 q2 n n m m n2 n2 m2 m2 xs ys x2 y2 w (h.num.ai (by omega)) (h.den.ai (by omega)) (k.num.ai (by omega)) (k.den.ai (by omega)) Ka Kb hKa hKb hK la la' lb lb'
  rwa [h.num.v, h.den.v, k.num.v, k.den.v, Rat.num_divInt_den, Rat.num_divInt_den] at this
theorem Whole_nr (h : NR B w s p n xs t q m ys r) (hn : n ≤ 79) (hm : m ≤ 79) :
    Calls Tryd.prog 19 #[.agg #[.bool s, .slice p n n, .bool t, .slice q m m]] w (WhPost r w) := by
  have := Whole_any s t p q n n m m xs ys w (h.num.ai (by omega)) (h.den.ai (by omega)) (by omega) (by omega) (by rw [h.den.v]; have := r.den_nz; omega)
  rwa [h.num.v, h.den.v, Rat.num_divInt_den] at this
theorem qBits_nr (h : NR B w s p n xs t q m ys r) (hn : n ≤ 79) (hm : m ≤ 79) :
    Calls Tryd.prog 21 #[.agg #[.bool s, .slice p n n, .bool t, .slice q m m]] w fun e w' => ∃ b c : Nat, e = .returned (.int .i64 ((b : Int) + c)) ∧ IB b (r.num.natAbs : Int) ∧ IB c (r.den : Int) ∧ Below w.heap.size w w' := by
  have := qBits_any s t p q n n m m xs ys w (h.num.ai (by omega)) (h.den.ai (by omega)) (by omega) (by omega)
  rwa [h.num.v, h.den.v, Rat.num_divInt_den] at this
theorem qText_nr (h : NR B w s p n xs t q m ys r) (hn : n ≤ 79) (hm : m ≤ 79) (a b : ByteArray) (z1 : a.size ≤ 1000000000) (z2 : b.size ≤ 1000000000)
    (hT1 : ∀ (B : Nat) (w' : World) (s' : Bool) (p' : Option Addr) (n' : Nat) (xs' : List Int), NI B w' s' p' n' xs' r.num → n' < 80 → Calls Tryd.prog 35 #[.agg #[.bool s', .slice p' n' n']] w' fun e w'' => e = .returned (.string a) ∧ Below w'.heap.size w' w'')
    (hT2 : r.den ≠ 1 → ∀ (B : Nat) (w' : World) (s' : Bool) (p' : Option Addr) (n' : Nat) (xs' : List Int), NI B w' s' p' n' xs' (r.den : Int) → n' < 80 → Calls Tryd.prog 35 #[.agg #[.bool s', .slice p' n' n']] w' fun e w'' => e = .returned (.string b) ∧ Below w'.heap.size w' w'') :
    Calls Tryd.prog 20 #[.agg #[.bool s, .slice p n n, .bool t, .slice q m m]] w fun e w' => e = .returned (.string (tjoin r.den a b)) ∧ Below w.heap.size w w' :=
  qText_any s t p q n n m m xs ys w (h.num.ai (by omega)) (h.den.ai (by omega)) (by omega) (by omega) r (by rw [h.num.v, h.den.v, Rat.num_divInt_den]) a b z1 z2 hT1 hT2
end
theorem qv1 : Rat.divInt 6 (-4) = Rat.divInt (-3) 2 := by decide +kernel
theorem qv2 : Rat.divInt (-3) 2 + Rat.divInt 1 2 = Rat.divInt (-1) 1 := by decide +kernel
theorem qn1 : (Rat.divInt (-3) 2).num = -3 ∧ (Rat.divInt (-3) 2).den = 2 := by decide +kernel
theorem qn2 : (Rat.divInt (-1) 1).num = -1 ∧ (Rat.divInt (-1) 1).den = 1 := by decide +kernel
theorem qn3 : (Rat.divInt (-3) 1).num = -3 ∧ (Rat.divInt (-3) 1).den = 1 := by decide +kernel
theorem qn4 : (Rat.divInt 1 2).num = 1 ∧ (Rat.divInt 1 2).den = 2 := by decide +kernel
theorem qt1 : tjoin (Rat.divInt (-3) 2).den ⟨#[45, 51]⟩ ⟨#[50]⟩ = ⟨#[45, 51, 47, 50]⟩ := by rw [qn1.2]; rfl
theorem qt2 : tjoin (Rat.divInt (-1) 1).den ⟨#[45, 49]⟩ ⟨#[]⟩ = ⟨#[45, 49]⟩ := by rw [qn2.2]; rfl
theorem qt3 : tjoin (Rat.divInt (-3) 1).den ⟨#[45, 51]⟩ ⟨#[]⟩ = ⟨#[45, 51]⟩ := by rw [qn3.2]; rfl
theorem qv3 : Rat.divInt (-3) 2 / Rat.divInt 1 2 = Rat.divInt (-3) 1 := by decide +kernel
set_option maxRecDepth 100000 in
set_option maxHeartbeats 4000000 in
theorem qbegun_any (w : World) : Calls Tryd.prog 5 #[] w fun e w' => e = .returned (.bool true) ∧ Below w.heap.size w w' := by
  go_enter Tryd.func5, Tryd.ntmps5
  go_wp2_with fail
  refine (qOf_any 6 (-4) _ (by decide) (by decide) (by decide) (by decide) 0 rfl).mono ?_
  rintro e w1 ⟨s1, p1, n1, x1, t1, q1, m1, y1, rfl, hN1, hb1⟩
  rw [qv1] at hN1
  go_wp2_with fail
  have hA := Vq.new hN1 (by decide +kernel) (by decide +kernel) 26
  have hW := bel_al (o := .cells #[.bool s1, .slice p1 n1 n1, .bool t1, .slice q1 m1 m1] 26) hb1
  clear hN1 hb1
  generalize w1.alloc (.cells #[.bool s1, .slice p1 n1 n1, .bool t1, .slice q1 m1 m1] 26) = W1 at *
  generalize w1.heap.size = ga at *
  refine (qOf_any 1 2 _ (by decide) (by decide) (by decide) (by decide) 0 rfl).mono ?_
  rintro e w2 ⟨s2, p2, n2, x2, t2, q2, m2, y2, rfl, hN2, hb2⟩
  have hal := bel_al (o := .cells #[.bool s2, .slice p2 n2 n2, .bool t2, .slice q2 m2 m2] 26) hb2
  have hA2 := hA.later hal
  have hB2 := Vq.new hN2 (by decide +kernel) (by decide +kernel) 26
  have hW2 := bnext' hW hal
  clear hN2 hb2 hA hW hal
  obtain ⟨a0, a1, a2, a3, -, -, -, -⟩ := hA2.b
  obtain ⟨b0, b1, b2, b3, -, -, -, -⟩ := hB2.b
  go_wp2_with fail
  generalize w2.alloc (.cells #[.bool s2, .slice p2 n2 n2, .bool t2, .slice q2 m2 m2] 26) = W2 at *
  generalize w2.heap.size = gb at *
  refine (qAdd_nr hA2.r hB2.r 1 1 (by decide) (by decide) (by decide) hA2.l hA2.l' hB2.l hB2.l').mono ?_
  rintro e w3 ⟨s3, p3, n3, x3, t3, q3, m3, y3, rfl, hN3, hb3⟩
  rw [qv2] at hN3
  have hal := bel_al (o := .cells #[.bool s3, .slice p3 n3 n3, .bool t3, .slice q3 m3 m3] 26) hb3
  have hA3 := hA2.later hal
  have hB3 := hB2.later hal
  have hC3 := Vq.new hN3 (by decide +kernel) (by decide +kernel) 26
  have hW3 := bnext' hW2 hal
  clear hN3 hb3 hA2 hB2 hW2 hal a0 a1 a2 a3 b0 b1 b2 b3
  obtain ⟨a0, a1, a2, a3, -, -, -, -⟩ := hA3.b
  obtain ⟨b0, b1, b2, b3, -, -, -, -⟩ := hB3.b
  go_wp2_with fail
  generalize w3.alloc (.cells #[.bool s3, .slice p3 n3 n3, .bool t3, .slice q3 m3 m3] 26) = W3 at *
  generalize w3.heap.size = gc at *
  have hq := qQuo_nr hA3.r hB3.r 1 1 (by decide) (by decide) (by decide) hA3.l hA3.l' hB3.l hB3.l'
  rw [qv3, if_neg (by decide +kernel)] at hq
  refine hq.mono ?_
  rintro e w4 ⟨s4, p4, n4, x4, t4, q4, m4, y4, rfl, hN4, hb4⟩
  have hal := bel_al (o := .cells #[.bool s4, .slice p4 n4 n4, .bool t4, .slice q4 m4 m4] 26) hb4
  have hA4 := hA3.later hal
  have hB4 := hB3.later hal
  have hC4 := hC3.later hal
  have hD4 := Vq.new hN4 (by decide +kernel) (by decide +kernel) 26
  have hW4 := bnext' hW3 hal
  clear hN4 hb4 hA3 hB3 hC3 hW3 hal a0 a1 a2 a3 b0 b1 b2 b3 hq
  obtain ⟨c0, c1, c2, c3, -, -, -, -⟩ := hC4.b
  go_wp2_with fail
  generalize w4.alloc (.cells #[.bool s4, .slice p4 n4 n4, .bool t4, .slice q4 m4 m4] 26) = W4 at *
  generalize w4.heap.size = gd at *
  refine (Whole_nr hC4.r (Nat.le_trans hC4.l (by decide)) (Nat.le_trans hC4.l' (by decide))).mono ?_
  rintro e w5 ⟨s5, p5, n5, x5, h5, hb5⟩
  rcases h5 with ⟨-, rfl, hN5⟩ | ⟨hne, -⟩
  · obtain ⟨rfl, -⟩ := ival_neg hN5.u hN5.v (by decide +kernel)
    have hal := bel_al (o := .cells #[.bool true, .slice p5 n5 n5] 24) hb5
    have hA5 := hA4.later hal
    have hB5 := hB4.later hal
    have hC5 := hC4.later hal
    have hD5 := hD4.later hal
    have hn5 : Bx (w5.alloc (.cells #[.bool true, .slice p5 n5 n5] 24)) w5.heap.size (.bool true) (.slice p5 n5 n5) := Bx.new _ _ _ rfl
    have hW5 := bnext' hW4 hal
    clear hA4 hB4 hC4 hD4 hW4 hal c0 c1 c2 c3 hN5 hb5
    obtain ⟨a0, a1, a2, a3, -, -, -, -⟩ := hA5.b
    go_wp2_with fail
    generalize w5.alloc (.cells #[.bool true, .slice p5 n5 n5] 24) = W5 at *
    generalize w5.heap.size = gn at *
    have h1 := qText_nr hA5.r (Nat.le_trans hA5.l (by decide)) (Nat.le_trans hA5.l' (by decide)) ⟨#[45, 51]⟩ ⟨#[50]⟩ (by decide) (by decide) (by rw [qn1.1]; intro B w' s' p' n' xs' h hn; exact text_neg 3 (by decide) (by decide) h hn) (by rw [qn1.2]; intro _ B w' s' p' n' xs' h hn; exact text_pos 2 (by decide) (by decide) h hn)
    rw [qt1] at h1
    refine h1.mono ?_
    rintro e w6 ⟨rfl, hb6⟩
    have hA6 := hA5.later hb6
    have hB6 := hB5.later hb6
    have hC6 := hC5.later hb6
    have hD6 := hD5.later hb6
    have hn6 := hn5.later hb6
    have hW6 := bnext' hW5 hb6
    clear h1 hA5 hB5 hC5 hD5 hn5 hW5 hb6 a0 a1 a2 a3
    obtain ⟨c0, c1, c2, c3, -, -, -, -⟩ := hC6.b
    go_wp2_with fail
    have h1 := qText_nr hC6.r (Nat.le_trans hC6.l (by decide)) (Nat.le_trans hC6.l' (by decide)) ⟨#[45, 49]⟩ ⟨#[]⟩ (by decide) (by decide) (by rw [qn2.1]; intro B w' s' p' n' xs' h hn; exact text_neg 1 (by decide) (by decide) h hn) (by rw [qn2.2]; intro h; exact absurd rfl h)
    rw [qt2] at h1
    refine h1.mono ?_
    rintro e w7 ⟨rfl, hb7⟩
    have hA7 := hA6.later hb7
    have hB7 := hB6.later hb7
    have hD7 := hD6.later hb7
    have hn7 := hn6.later hb7
    have hW7 := bnext' hW6 hb7
    clear h1 hA6 hB6 hC6 hD6 hn6 hW6 hb7 c0 c1 c2 c3
    obtain ⟨d0, d1, d2, d3, -, -, -, -⟩ := hD7.b
    go_wp2_with fail
    have h1 := qText_nr hD7.r (Nat.le_trans hD7.l (by decide)) (Nat.le_trans hD7.l' (by decide)) ⟨#[45, 51]⟩ ⟨#[]⟩ (by decide) (by decide) (by rw [qn3.1]; intro B w' s' p' n' xs' h hn; exact text_neg 3 (by decide) (by decide) h hn) (by rw [qn3.2]; intro h; exact absurd rfl h)
    rw [qt3] at h1
    refine h1.mono ?_
    rintro e w8 ⟨rfl, hb8⟩
    have hA8 := hA7.later hb8
    have hB8 := hB7.later hb8
    have hn8 := hn7.later hb8
    have hW8 := bnext' hW7 hb8
    clear h1 hA7 hB7 hD7 hn7 hW7 hb8 d0 d1 d2 d3
    obtain ⟨a0, a1, a2, a3, -, -, -, -⟩ := hA8.b
    obtain ⟨b0, b1, b2, b3, -, -, -, -⟩ := hB8.b
    obtain ⟨k0, k1, -, -⟩ := hn8
    go_wp2_with fail
    have h1 := qCmp_nr hA8.r hB8.r 1 1 (by decide) (by decide) (by decide) hA8.l hA8.l' hB8.l hB8.l'
    rw [qn1.1, qn1.2, qn4.1, qn4.2, icmp_lt (by decide)] at h1
    refine h1.mono ?_
    rintro e w9 ⟨rfl, hb9⟩
    have hA9 := hA8.later hb9
    have hW9 := bnext' hW8 hb9
    clear h1 hA8 hB8 hW8 hb9 a0 a1 a2 a3 b0 b1 b2 b3 k0 k1
    obtain ⟨a0, a1, a2, a3, -, -, -, -⟩ := hA9.b
    go_wp2_with fail
    refine (qBits_nr hA9.r (Nat.le_trans hA9.l (by decide)) (Nat.le_trans hA9.l' (by decide))).mono ?_
    rw [qn1.1, qn1.2]
    rintro e w10 ⟨b, c, rfl, hb, hc, hb10⟩
    obtain rfl : b = 2 := hb.uniq ⟨by decide, by decide, by decide⟩
    obtain rfl : c = 2 := hc.uniq ⟨by decide, by decide, by decide⟩
    have hW10 := bnext' hW9 hb10
    clear a0 a1 a2 a3 hb hc hA9 hW9 hb10
    go_wp2
    go_ret
    exact ⟨rfl, hW10⟩
  · exact absurd (by decide +kernel) hne
end Go.Proofs.YtongkalfdgleaaaDoor
/-
  ashlarlaw2.Cut.
-/
namespace Go.Proofs.YtongkalfdgleaaaDoor
open Go.RowKit
set_option linter.unusedVariables false
set_option linter.unusedSimpArgs false

/-- What Cut answers. -/
def QCut (s t : Bool) (xs ys : List Int) (w : World) (e : Ending) (w' : World) : Prop :=
  ∃ p n nc q m mc, e = .returned (.agg #[.bool s, .slice p n nc, .bool t, .slice q m mc]) ∧ AI w' p n nc (xs.take 24) ∧ AI w' q m mc (ys.take 24) ∧ n ≤ 24 ∧ m ≤ 24 ∧ Go.Proofs.YtongkalfdgleaaaDoor.From w.heap.size p ∧ Go.Proofs.YtongkalfdgleaaaDoor.From w.heap.size q ∧ Below w.heap.size w w'
set_option maxRecDepth 100000 in
set_option maxHeartbeats 2000000 in
/-- ashlarlaw2.Cut. -/
theorem qCut_any (s t : Bool) (p q : Option Addr) (n nc m mc : Nat) (xs ys : List Int) (w : World) (hl : xs.length = n) (hnc : n ≤ nc) (hb : nc ≤ maxLen) (hX : Rd w p .u32 xs) (hU : U32 xs) (hp : p = none → nc = 0) (hl' : ys.length = m) (hnc' : m ≤ mc) (hb' : mc ≤ maxLen) (hX' : Rd w q .u32 ys) (hU' : U32 ys) (hp' : q = none → mc = 0) :
    Calls Tryd.prog 6 #[.agg #[.bool s, .slice p n nc, .bool t, .slice q m mc]] w (QCut s t xs ys w) := by
  go_enter Tryd.func6, Tryd.ntmps6
  go_wp2_with fail
  have hA0 : Bq ((w.alloc (.cells #[.bool s, .slice p n nc, .bool t, .slice q m mc] 26)).alloc (.cells #[.bool false, .slice none 0 0, .bool false, .slice none 0 0] 26)) w.heap.size (.bool s) (.slice p n nc) (.bool t) (.slice q m mc) := (Bq.new _ _ _ _ _ rfl).alloc _
  have hR : Bq ((w.alloc (.cells #[.bool s, .slice p n nc, .bool t, .slice q m mc] 26)).alloc (.cells #[.bool false, .slice none 0 0, .bool false, .slice none 0 0] 26)) (w.heap.size + 1) (.bool false) (.slice none 0 0) (.bool false) (.slice none 0 0) := Bq.new _ _ _ _ _ (by simp)
  have hW : Below w.heap.size w ((w.alloc (.cells #[.bool s, .slice p n nc, .bool t, .slice q m mc] 26)).alloc (.cells #[.bool false, .slice none 0 0, .bool false, .slice none 0 0] 26)) := ((Below.refl _ _).alloc (Nat.le_refl _) _).alloc (by simp) _
  generalize (w.alloc (.cells #[.bool s, .slice p n nc, .bool t, .slice q m mc] 26)).alloc (.cells #[.bool false, .slice none 0 0, .bool false, .slice none 0 0] 26) = W at *
  obtain ⟨a0, a1, a2, a3, -, -, -, -⟩ := hA0
  go_region_held3 (fun w' => w'.cell? ⟨w.heap.size, 0, none⟩ = some (.bool s) ∧ w'.cell? ⟨w.heap.size, 1, none⟩ = some (.slice p n nc) ∧ w'.cell? ⟨w.heap.size, 2, none⟩ = some (.bool t) ∧ w'.cell? ⟨w.heap.size, 3, none⟩ = some (.slice q m mc)) (first | with_reducible exact ⟨a0, a1, a2, a3⟩ | with_reducible exact keepc4 ⟨a0, a1, a2, a3⟩ hV1 | with_reducible exact keepc4 ⟨a0, a1, a2, a3⟩ hV2 | (simp [go_sem, *]; done))
    (first
      | (go_at_call_of 11 (Value.agg #[.bool s, .slice p n nc]); refine (Cut_any s p n nc xs _ hl hnc hb (hX.below hW).drew hU hp).mono ?_; rintro e v1 ⟨p1, n1, nc1, rfl, hA1, hn1, hF1, hv1⟩; have hV1 := undrew hv1)
      | (go_at_call_of 11 (Value.agg #[.bool t, .slice q m mc]); refine (Cut_any t q m mc ys _ hl' hnc' hb' ((hX'.below hW).below hV1) hU' hp').mono ?_; rintro e v2 ⟨p2, n2, nc2, rfl, hA2, hn2, hF2, hv2⟩; have hV2 := bnext' hV1 hv2; have hR2 := hR.later hV2; obtain ⟨r0, r1, r2, r3, f0, f1, f2, f3⟩ := hR2))
  clear a0 a1 a2 a3
  go_wp2
  have sR := hR.lt
  have sV := hV1.size
  refine bodyPost_ret (v := .agg #[.bool s, .slice p1 n1 nc1, .bool t, .slice p2 n2 nc2]) (by simp [results, Tryd.results6, go_sem, r0, r1, r2, r3]) rfl ⟨_, _, _, _, _, _, rfl, ?_, ?_, hn1, hn2, ?_, ?_, ?_⟩
  · exact (hA1.below hv2).set4 (fun _ => off_from hF1 sR) _ _ _ _
  · exact hA2.set4 (fun _ => off_from hF2 (by omega)) _ _ _ _
  · exact fun a ha => Nat.le_trans hW.size (hF1 a ha)
  · exact fun a ha => Nat.le_trans (Nat.le_trans hW.size sV) (hF2 a ha)
  · exact bset4 (bnext' hW hV2) (by omega) _ _ _ _
end Go.Proofs.YtongkalfdgleaaaDoor
/-
  What holds behind each part of a region 'c := api.Rat{Num: To(Mul(From(x), n)), Den: To(Mul(From(y), n))}', in whatever order its operations come up.
-/
namespace Go.Proofs.YtongkalfdgleaaaDoor
open Go.RowKit
set_option linter.unusedVariables false
set_option linter.unusedSimpArgs false

/-- What a number is made of. -/
structure RW where
  t : Bool
  p : Option Addr
  n : Nat
  d : List Int
  k : Nat
/-- A reference number is answered. -/
def RRn (w : World) (V : Int) (N : Nat) (r : Value) (x : RW) : Prop := r = .agg #[.bool x.t, .slice x.p x.n x.n] ∧ RN w x.t x.p x.n x.d ∧ rval x.t x.d = V ∧ x.n ≤ N
/-- A number is answered. -/
def RAn (w : World) (V : Int) (N : Nat) (r : Value) (x : RW) : Prop := r = .agg #[.bool x.t, .slice x.p x.n x.k] ∧ AI w x.p x.n x.k x.d ∧ ival x.t x.d = V ∧ x.n ≤ N
theorem RRn.later {w w' : World} {V : Int} {N : Nat} {r : Value} {x : RW} (h : RRn w V N r x) (hb : Below w.heap.size w w') : RRn w' V N r x := ⟨h.1, h.2.1.below hb, h.2.2⟩
theorem RAn.later {w w' : World} {V : Int} {N : Nat} {r : Value} {x : RW} (h : RAn w V N r x) (hb : Below w.heap.size w w') : RAn w' V N r x := ⟨h.1, h.2.1.below hb, h.2.2⟩
/-- A variable of four cells is there. -/
def XQ (B : Nat) (w : World) (x : Value) (g : Nat) (done : Bool) (r : Value) : Prop :=
  x = .pointer (some ⟨g, 0, none⟩) ∧ B ≤ g ∧ ∃ u0 u1 u2 u3, Bq w g u0 u1 u2 u3 ∧ (done = true → r = .agg #[u0, u1, u2, u3])
theorem XQ.later {B : Nat} {w w' : World} {x : Value} {g : Nat} {done : Bool} {r : Value} (h : XQ B w x g done r) (hb : Below w.heap.size w w') : XQ B w' x g done r := by
  obtain ⟨h1, h2, u0, u1, u2, u3, h3, h4⟩ := h
  exact ⟨h1, h2, u0, u1, u2, u3, h3.later hb, h4⟩
theorem XQ.lt {B : Nat} {w : World} {x : Value} {g : Nat} {done : Bool} {r : Value} (h : XQ B w x g done r) : g < w.heap.size := by
  obtain ⟨h1, h2, u0, u1, u2, u3, h3, h4⟩ := h
  exact h3.lt
theorem XQ.res {B : Nat} {w : World} {x : Value} {g : Nat} {done : Bool} {r r' : Value} (h : XQ B w x g done r) (hd : ¬ done = true) : XQ B w x g done r' := by
  obtain ⟨h1, h2, u0, u1, u2, u3, h3, h4⟩ := h
  exact ⟨h1, h2, u0, u1, u2, u3, h3, fun e => absurd e hd⟩
/-- Behind each part of the region. -/
structure G6 (wc w : World) (Va Vd Vn : Int) (c1 c2 c3 c4 c5 c6 bd a s : Bool) (r1 r2 r3 r4 r5 r6 rr x : Value) (x1 x2 x3 x4 x5 x6 : RW) (g : Nat) : Prop where
  bel : Below wc.heap.size wc w
  R1 : c1 = true → c2 = false → RRn w Va 48 r1 x1
  R2 : c2 = true → c3 = false → RRn w (Va * Vn) 97 r2 x2
  R3 : c3 = true → RAn w (Va * Vn) 49 r3 x3
  R4 : c4 = true → c5 = false → RRn w Vd 48 r4 x4
  R5 : c5 = true → c6 = false → RRn w (Vd * Vn) 97 r5 x5
  R6 : c6 = true → RAn w (Vd * Vn) 49 r6 x6
  Bd : bd = true → c3 = true ∧ c6 = true ∧ rr = .agg #[.bool x3.t, .slice x3.p x3.n x3.k, .bool x6.t, .slice x6.p x6.n x6.k]
  X : a = true → XQ wc.heap.size w x g s rr
  d3 : c3 = true → a = true → 0 < x3.n → Off g x3.p
  d6 : c6 = true → a = true → 0 < x6.n → Off g x6.p
  p3 : c3 = true → c2 = true
  p6 : c6 = true → c5 = true
  o : s = true → bd = true
  q : s = true → a = true
section
variable {wc w w1 : World} {Va Vd Vn : Int} {c1 c2 c3 c4 c5 c6 bd a s : Bool} {r1 r2 r3 r4 r5 r6 rr x : Value} {x1 x2 x3 x4 x5 x6 : RW} {g : Nat}
theorem G6.call1 (h : G6 wc w Va Vd Vn c1 c2 c3 c4 c5 c6 bd a s r1 r2 r3 r4 r5 r6 rr x x1 x2 x3 x4 x5 x6 g) {y : RW} {r : Value} (hb : Below w.heap.size w w1) (hr : RRn w1 Va 48 r y) : G6 wc w1 Va Vd Vn (true) c2 c3 c4 c5 c6 bd a s (r) r2 r3 r4 r5 r6 rr x (y) x2 x3 x4 x5 x6 g :=
  ⟨h.bel.trans (hb.mono h.bel.size), fun _ _ => hr, fun k l => (h.R2 k l).later hb, fun k => (h.R3 k).later hb, fun k l => (h.R4 k l).later hb, fun k l => (h.R5 k l).later hb, fun k => (h.R6 k).later hb, h.Bd, fun k => (h.X k).later hb, h.d3, h.d6, h.p3, h.p6, h.o, h.q⟩
theorem G6.call2 (h : G6 wc w Va Vd Vn c1 c2 c3 c4 c5 c6 bd a s r1 r2 r3 r4 r5 r6 rr x x1 x2 x3 x4 x5 x6 g) {y : RW} {r : Value} (hb : Below w.heap.size w w1) (hr : RRn w1 (Va * Vn) 97 r y) : G6 wc w1 Va Vd Vn c1 (true) c3 c4 c5 c6 bd a s r1 (r) r3 r4 r5 r6 rr x x1 (y) x3 x4 x5 x6 g :=
  ⟨h.bel.trans (hb.mono h.bel.size), fun _ e => absurd e (by decide), fun _ _ => hr, fun k => (h.R3 k).later hb, fun k l => (h.R4 k l).later hb, fun k l => (h.R5 k l).later hb, fun k => (h.R6 k).later hb, h.Bd, fun k => (h.X k).later hb, h.d3, h.d6, fun _ => rfl, h.p6, h.o, h.q⟩
theorem G6.call3 (h : G6 wc w Va Vd Vn c1 c2 c3 c4 c5 c6 bd a s r1 r2 r3 r4 r5 r6 rr x x1 x2 x3 x4 x5 x6 g) {y : RW} {r : Value} (hc2 : c2 = true) (hc : ¬ c3 = true) (hf : Go.Proofs.YtongkalfdgleaaaDoor.From w.heap.size y.p) (hb : Below w.heap.size w w1) (hr : RAn w1 (Va * Vn) 49 r y) : G6 wc w1 Va Vd Vn c1 c2 (true) c4 c5 c6 bd a s r1 r2 (r) r4 r5 r6 rr x x1 x2 (y) x4 x5 x6 g :=
  ⟨h.bel.trans (hb.mono h.bel.size), fun k l => (h.R1 k l).later hb, fun _ e => absurd e (by decide), fun _ => hr, fun k l => (h.R4 k l).later hb, fun k l => (h.R5 k l).later hb, fun k => (h.R6 k).later hb, fun k => absurd (h.Bd k).1 hc, fun k => (h.X k).later hb, fun _ k _ => off_from hf (h.X k).lt, h.d6, fun _ => hc2, h.p6, h.o, h.q⟩
theorem G6.call4 (h : G6 wc w Va Vd Vn c1 c2 c3 c4 c5 c6 bd a s r1 r2 r3 r4 r5 r6 rr x x1 x2 x3 x4 x5 x6 g) {y : RW} {r : Value} (hb : Below w.heap.size w w1) (hr : RRn w1 Vd 48 r y) : G6 wc w1 Va Vd Vn c1 c2 c3 (true) c5 c6 bd a s r1 r2 r3 (r) r5 r6 rr x x1 x2 x3 (y) x5 x6 g :=
  ⟨h.bel.trans (hb.mono h.bel.size), fun k l => (h.R1 k l).later hb, fun k l => (h.R2 k l).later hb, fun k => (h.R3 k).later hb, fun _ _ => hr, fun k l => (h.R5 k l).later hb, fun k => (h.R6 k).later hb, h.Bd, fun k => (h.X k).later hb, h.d3, h.d6, h.p3, h.p6, h.o, h.q⟩
theorem G6.call5 (h : G6 wc w Va Vd Vn c1 c2 c3 c4 c5 c6 bd a s r1 r2 r3 r4 r5 r6 rr x x1 x2 x3 x4 x5 x6 g) {y : RW} {r : Value} (hb : Below w.heap.size w w1) (hr : RRn w1 (Vd * Vn) 97 r y) : G6 wc w1 Va Vd Vn c1 c2 c3 c4 (true) c6 bd a s r1 r2 r3 r4 (r) r6 rr x x1 x2 x3 x4 (y) x6 g :=
  ⟨h.bel.trans (hb.mono h.bel.size), fun k l => (h.R1 k l).later hb, fun k l => (h.R2 k l).later hb, fun k => (h.R3 k).later hb, fun _ e => absurd e (by decide), fun _ _ => hr, fun k => (h.R6 k).later hb, h.Bd, fun k => (h.X k).later hb, h.d3, h.d6, h.p3, fun _ => rfl, h.o, h.q⟩
theorem G6.call6 (h : G6 wc w Va Vd Vn c1 c2 c3 c4 c5 c6 bd a s r1 r2 r3 r4 r5 r6 rr x x1 x2 x3 x4 x5 x6 g) {y : RW} {r : Value} (hc2 : c5 = true) (hc : ¬ c6 = true) (hf : Go.Proofs.YtongkalfdgleaaaDoor.From w.heap.size y.p) (hb : Below w.heap.size w w1) (hr : RAn w1 (Vd * Vn) 49 r y) : G6 wc w1 Va Vd Vn c1 c2 c3 c4 c5 (true) bd a s r1 r2 r3 r4 r5 (r) rr x x1 x2 x3 x4 x5 (y) g :=
  ⟨h.bel.trans (hb.mono h.bel.size), fun k l => (h.R1 k l).later hb, fun k l => (h.R2 k l).later hb, fun k => (h.R3 k).later hb, fun k l => (h.R4 k l).later hb, fun _ e => absurd e (by decide), fun _ => hr, fun k => absurd (h.Bd k).2.1 hc, fun k => (h.X k).later hb, h.d3, fun _ k _ => off_from hf (h.X k).lt, h.p3, fun _ => hc2, h.o, h.q⟩
theorem G6.build (h : G6 wc w Va Vd Vn c1 c2 c3 c4 c5 c6 bd a s r1 r2 r3 r4 r5 r6 rr x x1 x2 x3 x4 x5 x6 g) (hc : ¬ bd = true) (h3 : c3 = true) (h6 : c6 = true) : G6 wc w Va Vd Vn c1 c2 c3 c4 c5 c6 (true) a s r1 r2 r3 r4 r5 r6 (.agg #[.bool x3.t, .slice x3.p x3.n x3.k, .bool x6.t, .slice x6.p x6.n x6.k]) x x1 x2 x3 x4 x5 x6 g :=
  ⟨h.bel, h.R1, h.R2, h.R3, h.R4, h.R5, h.R6, fun _ => ⟨h3, h6, rfl⟩, fun k => (h.X k).res (fun e => hc (h.o e)), h.d3, h.d6, h.p3, h.p6, fun _ => rfl, h.q⟩
theorem G6.alloc (h : G6 wc w Va Vd Vn c1 c2 c3 c4 c5 c6 bd a s r1 r2 r3 r4 r5 r6 rr x x1 x2 x3 x4 x5 x6 g) (hs : ¬ a = true) (u0 u1 u2 u3 : Value) (ty : Nat) : G6 wc (w.alloc (.cells #[u0, u1, u2, u3] ty)) Va Vd Vn c1 c2 c3 c4 c5 c6 bd (true) s r1 r2 r3 r4 r5 r6 rr (.pointer (some ⟨w.heap.size, 0, none⟩)) x1 x2 x3 x4 x5 x6 (w.heap.size) :=
  ⟨h.bel.alloc h.bel.size _, fun k l => (h.R1 k l).later (bel_al (Below.refl _ _)), fun k l => (h.R2 k l).later (bel_al (Below.refl _ _)), fun k => (h.R3 k).later (bel_al (Below.refl _ _)), fun k l => (h.R4 k l).later (bel_al (Below.refl _ _)), fun k l => (h.R5 k l).later (bel_al (Below.refl _ _)), fun k => (h.R6 k).later (bel_al (Below.refl _ _)), h.Bd, fun _ => ⟨rfl, h.bel.size, u0, u1, u2, u3, Bq.new _ _ _ _ _ rfl, fun e => absurd (h.q e) hs⟩, fun k _ => (h.R3 k).2.1.off (Nat.le_refl _), fun k _ => (h.R6 k).2.1.off (Nat.le_refl _), h.p3, h.p6, h.o, fun _ => rfl⟩
theorem G6.store (h : G6 wc w Va Vd Vn c1 c2 c3 c4 c5 c6 bd a s r1 r2 r3 r4 r5 r6 rr x x1 x2 x3 x4 x5 x6 g) (ha : a = true) (hbd : bd = true) : G6 wc ((((w.setCell ⟨g, 0, none⟩ (.bool x3.t)).setCell ⟨g, 1, none⟩ (.slice x3.p x3.n x3.k)).setCell ⟨g, 2, none⟩ (.bool x6.t)).setCell ⟨g, 3, none⟩ (.slice x6.p x6.n x6.k)) Va Vd Vn c1 c2 c3 c4 c5 c6 bd a (true) r1 r2 r3 r4 r5 r6 rr x x1 x2 x3 x4 x5 x6 g := by
  obtain ⟨h3, h6, hrr⟩ := h.Bd hbd
  obtain ⟨y1, y2, u0, u1, u2, u3, y3, y4⟩ := h.X ha
  refine ⟨bset4 h.bel y2 _ _ _ _, fun _ e => absurd (h.p3 h3) (by rw [e]; decide), fun _ e => absurd h3 (by rw [e]; decide), fun k => ?_, fun _ e => absurd (h.p6 h6) (by rw [e]; decide), fun _ e => absurd h6 (by rw [e]; decide), fun k => ?_, h.Bd, fun _ => ⟨y1, y2, _, _, _, _, Bq_set y3, fun _ => hrr⟩, h.d3, h.d6, h.p3, h.p6, fun _ => hbd, fun _ => ha⟩
  · obtain ⟨e1, e2, e3, e4⟩ := h.R3 k
    exact ⟨e1, e2.set4 (h.d3 k ha) _ _ _ _, e3, e4⟩
  · obtain ⟨e1, e2, e3, e4⟩ := h.R6 k
    exact ⟨e1, e2.set4 (h.d6 k ha) _ _ _ _, e3, e4⟩
end
end Go.Proofs.YtongkalfdgleaaaDoor
