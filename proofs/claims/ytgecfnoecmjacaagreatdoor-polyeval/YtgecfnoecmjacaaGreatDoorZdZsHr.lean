/-
  rat.Norm, and what the functions of two rationals share.
-/
import Derived.Test.YtgecfnoecmjacaaGreatDoorZc
import Derived.Test.YtgecfnoecmjacaaGreatDoorZbHq
import Derived.Test.YtgecfnoecmjacaaGreatDoorRkUgUi
import Derived.Deep.DeepFit
namespace Go.Proofs.YtgecfnoecmjacaaGreatDoor
open Go.RowKit
set_option linter.unusedVariables false
set_option linter.unusedSimpArgs false

theorem Bq_set {w : World} {g : Nat} {a0 a1 a2 a3 u v x y : Value} (h : Bq w g a0 a1 a2 a3) : Bq ((((w.setCell ⟨g, 0, none⟩ u).setCell ⟨g, 1, none⟩ v).setCell ⟨g, 2, none⟩ x).setCell ⟨g, 3, none⟩ y) g u v x y := by
  obtain ⟨c0, c1, c2, c3, f0, f1, f2, f3⟩ := h
  have e0 := World.cell?_setCell_same w ⟨g, 0, none⟩ u c0
  have e1 : (w.setCell ⟨g, 0, none⟩ u).cell? ⟨g, 1, none⟩ = some a1 := by rw [World.cell?_setCell_other _ _ _ _ (by simp)]; exact c1
  have e2 : ((w.setCell ⟨g, 0, none⟩ u).setCell ⟨g, 1, none⟩ v).cell? ⟨g, 2, none⟩ = some a2 := by rw [World.cell?_setCell_other _ _ _ _ (by simp), World.cell?_setCell_other _ _ _ _ (by simp)]; exact c2
  have e3 : (((w.setCell ⟨g, 0, none⟩ u).setCell ⟨g, 1, none⟩ v).setCell ⟨g, 2, none⟩ x).cell? ⟨g, 3, none⟩ = some a3 := by rw [World.cell?_setCell_other _ _ _ _ (by simp), World.cell?_setCell_other _ _ _ _ (by simp), World.cell?_setCell_other _ _ _ _ (by simp)]; exact c3
  refine ⟨?_, ?_, ?_, World.cell?_setCell_same _ _ _ e3, ?_, ?_, ?_, ?_⟩
  · rw [World.cell?_setCell_other _ _ _ _ (by simp), World.cell?_setCell_other _ _ _ _ (by simp), World.cell?_setCell_other _ _ _ _ (by simp)]; exact e0
  · rw [World.cell?_setCell_other _ _ _ _ (by simp), World.cell?_setCell_other _ _ _ _ (by simp)]; exact World.cell?_setCell_same _ _ _ e1
  · rw [World.cell?_setCell_other _ _ _ _ (by simp)]; exact World.cell?_setCell_same _ _ _ e2
  all_goals (rw [World.frozen?_setCell, World.frozen?_setCell, World.frozen?_setCell, World.frozen?_setCell]; assumption)
theorem Bq_oth {w : World} {r g : Nat} {a0 a1 a2 a3 u v x y : Value} (h : Bq w r a0 a1 a2 a3) (hne : r ≠ g) : Bq ((((w.setCell ⟨g, 0, none⟩ u).setCell ⟨g, 1, none⟩ v).setCell ⟨g, 2, none⟩ x).setCell ⟨g, 3, none⟩ y) r a0 a1 a2 a3 := by
  have e : ((((w.setCell ⟨g, 0, none⟩ u).setCell ⟨g, 1, none⟩ v).setCell ⟨g, 2, none⟩ x).setCell ⟨g, 3, none⟩ y).heap[r]? = w.heap[r]? := (heap_setCell_other _ _ r y hne).trans ((heap_setCell_other _ _ r x hne).trans ((heap_setCell_other _ _ r v hne).trans (heap_setCell_other _ _ r u hne)))
  exact ⟨(World.cell?_of_block (a := ⟨r, 0, none⟩) e).trans h.c0, (World.cell?_of_block (a := ⟨r, 1, none⟩) e).trans h.c1, (World.cell?_of_block (a := ⟨r, 2, none⟩) e).trans h.c2, (World.cell?_of_block (a := ⟨r, 3, none⟩) e).trans h.c3, (World.frozen?_of_block (a := ⟨r, 0, none⟩) e).trans h.f0, (World.frozen?_of_block (a := ⟨r, 1, none⟩) e).trans h.f1, (World.frozen?_of_block (a := ⟨r, 2, none⟩) e).trans h.f2, (World.frozen?_of_block (a := ⟨r, 3, none⟩) e).trans h.f3⟩
/-- The end of a function that hands on a rational that a callee has answered. -/
theorem end_nr {w W w1 : World} {r : Nat} {s : Bool} {p : Option Addr} {n : Nat} {xs : List Int} {t : Bool} {q : Option Addr} {m : Nat} {ys : List Int} {z : Rat} {u v x y : Value} (hw : Below w.heap.size w W) (hr : w.heap.size ≤ r) (hr' : r < W.heap.size)
    (hN : NR W.heap.size w1 s p n xs t q m ys z) (hb : Below W.heap.size W w1) :
    NrPost z w (.returned (.agg #[.bool s, .slice p n n, .bool t, .slice q m m])) ((((w1.setCell ⟨r, 0, none⟩ u).setCell ⟨r, 1, none⟩ v).setCell ⟨r, 2, none⟩ x).setCell ⟨r, 3, none⟩ y) :=
  ⟨_, _, _, xs, _, _, _, ys, rfl, ⟨(hN.num.set4 hr' _ _ _ _).mono hw.size, (hN.den.set4 hr' _ _ _ _).mono hw.size⟩, bset4 (bnext' hw hb) hr _ _ _ _⟩
set_option maxRecDepth 100000 in
set_option maxHeartbeats 2000000 in
/-- rat.Norm. -/
theorem Norm_any (s t : Bool) (p q : Option Addr) (n nc m mc : Nat) (xs ys : List Int) (w : World) (hA : AI w p n nc xs) (hB : AI w q m mc ys) (hn : n < 150) (hm : m < 150) :
    Calls Tryz.prog 84 #[.agg #[.bool s, .slice p n nc, .bool t, .slice q m mc]] w (NrPost (Rat.divInt (ival s xs) (ival t ys)) w) := by
  generalize hQ : Rat.divInt (ival s xs) (ival t ys) = Q
  have HQ : Hid (Rat.divInt (ival s xs) (ival t ys) = Q) := hQ
  clear hQ
  go_enter Tryz.func84, Tryz.ntmps84
  go_wp2_with fail
  have hA0 : Bq ((w.alloc (.cells #[.bool s, .slice p n nc, .bool t, .slice q m mc] 52)).alloc (.cells #[.bool false, .slice none 0 0, .bool false, .slice none 0 0] 52)) w.heap.size (.bool s) (.slice p n nc) (.bool t) (.slice q m mc) := (Bq.new _ _ _ _ _ rfl).alloc _
  have hR : Bq ((w.alloc (.cells #[.bool s, .slice p n nc, .bool t, .slice q m mc] 52)).alloc (.cells #[.bool false, .slice none 0 0, .bool false, .slice none 0 0] 52)) (w.heap.size + 1) (.bool false) (.slice none 0 0) (.bool false) (.slice none 0 0) := Bq.new _ _ _ _ _ (by simp)
  have hW : Below w.heap.size w ((w.alloc (.cells #[.bool s, .slice p n nc, .bool t, .slice q m mc] 52)).alloc (.cells #[.bool false, .slice none 0 0, .bool false, .slice none 0 0] 52)) := ((Below.refl _ _).alloc (Nat.le_refl _) _).alloc (by simp) _
  generalize (w.alloc (.cells #[.bool s, .slice p n nc, .bool t, .slice q m mc] 52)).alloc (.cells #[.bool false, .slice none 0 0, .bool false, .slice none 0 0] 52) = W at *
  have hs := hR.lt
  refine (upright_any s t p q n nc m mc xs ys _ (hA.below hW) (hB.below hW) 149 (by omega) (by omega) (by omega)).mono ?_
  rintro e w1 ⟨s1, p1, n1, nc1, x1, t1, q1, m1, mc1, y1, rfl, hA1, hB1, hp, hv, hn1, hm1, hof, hb1⟩
  have ho := hof w.heap.size (by omega) (hA.off (Nat.le_refl _)) (hB.off (Nat.le_refl _))
  have hA2 := hA1.set4 ho.1 (.bool s1) (.slice p1 n1 nc1) (.bool t1) (.slice q1 m1 mc1)
  have hB2 := hB1.set4 ho.2 (.bool s1) (.slice p1 n1 nc1) (.bool t1) (.slice q1 m1 mc1)
  have hBa := Bq_set (u := .bool s1) (v := .slice p1 n1 nc1) (x := .bool t1) (y := .slice q1 m1 mc1) (hA0.later hb1)
  have hBr := Bq_oth (g := w.heap.size) (u := .bool s1) (v := .slice p1 n1 nc1) (x := .bool t1) (y := .slice q1 m1 mc1) (hR.later hb1) (by omega)
  have hW2 := bset4 (g := w.heap.size) (bnext' hW hb1) (Nat.le_refl _) (.bool s1) (.slice p1 n1 nc1) (.bool t1) (.slice q1 m1 mc1)
  obtain ⟨a0, a1, a2, a3, f0, f1, f2, f3⟩ := hA0.later hb1
  obtain ⟨c0, c1, c2, c3, -, -, -, -⟩ := hBa
  clear hof ho hA0 hR hA1 hB1 hW
  have HV : Hid (Rat.divInt (ival s1 x1) (ival t1 y1) = Q) := hv.trans HQ.out
  clear hv
  go_wp2_with fail
  generalize (((w1.setCell ⟨w.heap.size, 0, none⟩ (.bool s1)).setCell ⟨w.heap.size, 1, none⟩ (.slice p1 n1 nc1)).setCell ⟨w.heap.size, 2, none⟩ (.bool t1)).setCell ⟨w.heap.size, 3, none⟩ (.slice q1 m1 mc1) = W2 at *
  have h3 := lowest_any s1 t1 p1 q1 n1 nc1 m1 mc1 x1 y1 W2 hA2 hB2 (by omega) (by omega) (by omega)
  rw [HV.out] at h3
  refine h3.mono ?_
  rintro e w3 ⟨s3, p3, n3, x3, t3, q3, m3, y3, rfl, hN3, hb3⟩
  have hs2 := hBr.lt
  clear c0 c1 c2 c3 a0 a1 a2 a3 f0 f1 f2 f3
  obtain ⟨r0, r1, r2, r3, f0, f1, f2, f3⟩ := hBr.later hb3
  go_wp2
  exact bodyPost_ret (v := .agg #[.bool s3, .slice p3 n3 n3, .bool t3, .slice q3 m3 m3]) (by simp [results, Tryz.results84, go_sem, r0, r1, r2, r3]) rfl (end_nr hW2 (by omega) hs2 hN3 hb3)
end Go.Proofs.YtgecfnoecmjacaaGreatDoor
/-
  Rationals with a bound of their size; rat.Norm for them.
-/
namespace Go.Proofs.YtgecfnoecmjacaaGreatDoor
open Go.RowKit
set_option linter.unusedVariables false
set_option linter.unusedSimpArgs false

theorem prod_bd {a b : Int} {i j : Nat} (h : (a.natAbs : Int) < pw i) (k : (b.natAbs : Int) < pw j) : ((a * b).natAbs : Int) < pw (i + j) := by
  rw [Int.natAbs_mul, pw_add]
  push_cast
  have h1 := pw_pos i
  have h2 := pw_pos j
  have h3 : (a.natAbs : Int) * (b.natAbs : Int) ≤ (a.natAbs : Int) * pw j := Int.mul_le_mul_of_nonneg_left (by omega) (by omega)
  have h4 : (a.natAbs : Int) * pw j < pw i * pw j := Int.mul_lt_mul_of_pos_right h h2
  omega
theorem rat_bd {a b : Int} {K : Nat} (ha : (a.natAbs : Int) < pw K) (hb : (b.natAbs : Int) < pw K) (hK : 1 ≤ K) : ((Rat.divInt a b).num.natAbs : Int) < pw K ∧ (((Rat.divInt a b).den : Int).natAbs : Int) < pw K := by
  have h1 := rat_num_le a b
  refine ⟨by omega, ?_⟩
  by_cases h : b = 0
  · subst h
    rw [Rat.divInt_zero]
    have h2 := pw_mono hK
    have h3 : pw 1 = 4294967296 := by decide
    show ((1 : Nat) : Int) < _
    omega
  · have h2 := rat_den_le a b h
    omega
theorem NR.below {B : Nat} {w w' : World} {s t : Bool} {p q : Option Addr} {n m : Nat} {xs ys : List Int} {r : Rat} (h : NR B w s p n xs t q m ys r) (hb : Below w.heap.size w w') : NR B w' s p n xs t q m ys r := ⟨h.num.below hb, h.den.below hb⟩
theorem sum_bd {z x y : Int} {k : Nat} (h : z.natAbs ≤ x.natAbs + y.natAbs) (hx : (x.natAbs : Int) < pw k) (hy : (y.natAbs : Int) < pw k) : (z.natAbs : Int) < pw (k + 1) := by
  rw [pw_succ]
  have := pw_pos k
  omega
theorem keepq {w1 w2 : World} {a b c d e f g h : Addr} {u v x y z t r s : Value} (k : w1.cell? a = some u ∧ w1.cell? b = some v ∧ w1.cell? c = some x ∧ w1.cell? d = some y ∧ w1.cell? e = some z ∧ w1.cell? f = some t ∧ w1.cell? g = some r ∧ w1.cell? h = some s) (hb : Below w1.heap.size w1 w2) :
    w2.cell? a = some u ∧ w2.cell? b = some v ∧ w2.cell? c = some x ∧ w2.cell? d = some y ∧ w2.cell? e = some z ∧ w2.cell? f = some t ∧ w2.cell? g = some r ∧ w2.cell? h = some s :=
  ⟨cell_later hb k.1, cell_later hb k.2.1, cell_later hb k.2.2.1, cell_later hb k.2.2.2.1, cell_later hb k.2.2.2.2.1, cell_later hb k.2.2.2.2.2.1, cell_later hb k.2.2.2.2.2.2.1, cell_later hb k.2.2.2.2.2.2.2⟩
/-- A rational that is handed in, of the value r, its parts of at most K limbs. -/
def AQ (w : World) (K : Nat) (s : Bool) (p : Option Addr) (n nc : Nat) (t : Bool) (q : Option Addr) (m mc : Nat) (r : Rat) : Prop :=
  ∃ xs ys, AI w p n nc xs ∧ AI w q m mc ys ∧ n ≤ K ∧ m ≤ K ∧ Rat.divInt (ival s xs) (ival t ys) = r
/-- A rational that is answered. -/
def NQ (B : Nat) (w : World) (K : Nat) (s : Bool) (p : Option Addr) (n : Nat) (t : Bool) (q : Option Addr) (m : Nat) (r : Rat) : Prop :=
  ∃ xs ys, NR B w s p n xs t q m ys r ∧ n ≤ K ∧ m ≤ K
def QP (r : Rat) (K : Nat) (w : World) (e : Ending) (w' : World) : Prop :=
  ∃ s p n t q m, e = .returned (.agg #[.bool s, .slice p n n, .bool t, .slice q m m]) ∧ NQ w.heap.size w' K s p n t q m r ∧ Below w.heap.size w w'
def QcP (r : Rat) (c : Int) (K : Nat) (w : World) (e : Ending) (w' : World) : Prop :=
  ∃ s p n t q m, e = .returned (.tuple #[.agg #[.bool s, .slice p n n, .bool t, .slice q m m], .int .i64 c]) ∧ NQ w.heap.size w' K s p n t q m r ∧ Below w.heap.size w w'
/-- The parts of a rational are below pw K. -/
def Sz (r : Rat) (K : Nat) : Prop := (r.num.natAbs : Int) < pw K ∧ ((r.den : Int).natAbs : Int) < pw K
theorem Sz.up {r : Rat} {K L : Nat} (h : Sz r K) (k : K ≤ L) : Sz r L := by
  have := pw_mono k
  exact ⟨by have := h.1; omega, by have := h.2; omega⟩
section
variable {w w' : World} {K Ka Kb : Nat} {s t sa ta sb tb : Bool} {p q pa qa pb qb : Option Addr} {n nc m mc na nac ma mac nb nbc mb mbc : Nat} {r ra rb : Rat} {B : Nat}
theorem AQ.below (h : AQ w K s p n nc t q m mc r) (hb : Below w.heap.size w w') : AQ w' K s p n nc t q m mc r := by
  obtain ⟨xs, ys, h1, h2, h3⟩ := h
  exact ⟨xs, ys, h1.below hb, h2.below hb, h3⟩
theorem AQ.drew (h : AQ w K s p n nc t q m mc r) : AQ w.drew K s p n nc t q m mc r := by
  obtain ⟨xs, ys, h1, h2, h3⟩ := h
  exact ⟨xs, ys, h1.drew, h2.drew, h3⟩
theorem NQ.below (h : NQ B w K s p n t q m r) (hb : Below w.heap.size w w') : NQ B w' K s p n t q m r := by
  obtain ⟨xs, ys, h1, h2⟩ := h
  exact ⟨xs, ys, h1.below hb, h2⟩
theorem NQ.aq (h : NQ B w K s p n t q m r) (hK : K ≤ 1000) : AQ w K s p n n t q m m r := by
  obtain ⟨xs, ys, h1, h2, h3⟩ := h
  exact ⟨xs, ys, h1.num.ai (by omega), h1.den.ai (by omega), h2, h3, by rw [h1.num.v, h1.den.v, Rat.num_divInt_den]⟩
theorem AQ.sz (h : AQ w K s p n nc t q m mc r) (hK : 1 ≤ K) : Sz r K := by
  obtain ⟨xs, ys, h1, h2, h3, h4, rfl⟩ := h
  refine rat_bd ?_ ?_ hK
  · have := h1.lt s; have := pw_mono h3; omega
  · have := h2.lt t; have := pw_mono h4; omega
theorem nr_nq {xs ys : List Int} (h : NR B w s p n xs t q m ys r) (hs : Sz r K) : NQ B w K s p n t q m r := ⟨xs, ys, h, h.num.le hs.1, h.den.le hs.2⟩
theorem NQ.sized {L : Nat} (h : NQ B w K s p n t q m r) (hs : Sz r L) : NQ B w L s p n t q m r := by
  obtain ⟨xs, ys, h1, -⟩ := h
  exact nr_nq h1 hs
theorem mul_sz (ha : Sz ra Ka) (hb : Sz rb Kb) (hK : 1 ≤ Ka) : Sz (ra * rb) (Ka + Kb) := by
  have e : ra * rb = Rat.divInt (ra.num * rb.num) (ra.den * rb.den) := by
    have := Rat.divInt_mul_divInt ra.num rb.num (d₁ := ra.den) (d₂ := rb.den)
    rwa [Rat.num_divInt_den, Rat.num_divInt_den] at this
  rw [e]
  exact rat_bd (prod_bd ha.1 hb.1) (prod_bd ha.2 hb.2) (by omega)
theorem add_sz (ha : Sz ra Ka) (hb : Sz rb Kb) : Sz (ra + rb) (Ka + Kb + 1) := by
  have e : ra + rb = Rat.divInt (ra.num * rb.den + rb.num * ra.den) (ra.den * rb.den) := by
    have := Rat.divInt_add_divInt ra.num rb.num (d₁ := ra.den) (d₂ := rb.den) (by have := ra.den_nz; omega) (by have := rb.den_nz; omega)
    rwa [Rat.num_divInt_den, Rat.num_divInt_den] at this
  rw [e]
  have h2 := prod_bd hb.1 ha.2
  rw [Nat.add_comm] at h2
  refine rat_bd (sum_bd (by omega) (prod_bd ha.1 hb.2) h2) ?_ (by omega)
  have h3 := prod_bd ha.2 hb.2
  have h4 := pw_mono (show Ka + Kb ≤ Ka + Kb + 1 by omega)
  omega
theorem neg_sz (ha : Sz ra Ka) : Sz (-ra) Ka := by
  have h1 := ha.1
  have h2 := ha.2
  refine ⟨?_, ?_⟩
  · rw [Rat.neg_num]; omega
  · rw [Rat.neg_den]; exact h2
theorem quo_sz (ha : Sz ra Ka) (hb : Sz rb Kb) (hK : 1 ≤ Ka) : Sz (ra / rb) (Ka + Kb) := by
  have e : ra / rb = Rat.divInt (ra.num * rb.den) (ra.den * rb.num) := by
    rcases Classical.em (rb = 0) with h | h
    · subst h
      rw [Rat.div_def, Rat.inv_zero, Rat.mul_zero]
      simp
    · have := Rat.divInt_mul_divInt ra.num (rb.den : Int) (d₁ := ra.den) (d₂ := rb.num)
      rw [← this, Rat.num_divInt_den, Rat.div_def]
      congr 1
      rw [← Rat.inv_divInt, Rat.num_divInt_den]
  rw [e]
  exact rat_bd (prod_bd ha.1 hb.2) (prod_bd ha.2 hb.1) (by omega)
theorem QP.of {K : Nat} {e : Ending} (h : NrPost r w e w') (hs : Sz r K) : QP r K w e w' := by
  obtain ⟨s, p, n, xs, t, q, m, ys, h1, h2, h3⟩ := h
  exact ⟨s, p, n, t, q, m, h1, nr_nq h2 hs, h3⟩
theorem AQ.set4 (h : AQ w K s p n nc t q m mc r) {g : Nat} (hp : 0 < n → Off g p) (hq : 0 < m → Off g q) (u v x y : Value) : AQ ((((w.setCell ⟨g, 0, none⟩ u).setCell ⟨g, 1, none⟩ v).setCell ⟨g, 2, none⟩ x).setCell ⟨g, 3, none⟩ y) K s p n nc t q m mc r := by
  obtain ⟨xs, ys, h1, h2, h3⟩ := h
  exact ⟨xs, ys, h1.set4 hp _ _ _ _, h2.set4 hq _ _ _ _, h3⟩
theorem qNorm_q (ha : AQ w K s p n nc t q m mc r) (hK : 1 ≤ K) (hK' : K < 150) :
    Calls Tryz.prog 84 #[.agg #[.bool s, .slice p n nc, .bool t, .slice q m mc]] w (QP r K w) := by
  have hs := ha.sz hK
  obtain ⟨xs, ys, h1, h2, h3, h4, rfl⟩ := ha
  exact (Norm_any s t p q n nc m mc xs ys w h1 h2 (by omega) (by omega)).mono fun e w' h => QP.of h hs
end
end Go.Proofs.YtgecfnoecmjacaaGreatDoor
/-
  upoly.horner over the rationals: the loop.
-/
namespace Go.Proofs.YtgecfnoecmjacaaGreatDoor
open Go.RowKit
set_option linter.unusedVariables false
set_option linter.unusedSimpArgs false

/-- The value at a rational. -/
def evq (x : Rat) : List Int → Rat
  | [] => 0
  | c :: cs => evq x cs * x + (c : Rat)
/-- Above and below the line, as Horner makes them. -/
def hnd (a b : Int) : List Int → Int × Int
  | [] => (0, 1)
  | c :: cs => ((hnd a b cs).1 * a + c * ((hnd a b cs).2 * b), (hnd a b cs).2 * b)
theorem hnd_drop (a b : Int) (zs : List Int) (i : Nat) (h : i < zs.length) : hnd a b (zs.drop i) = ((hnd a b (zs.drop (i + 1))).1 * a + gx zs i * ((hnd a b (zs.drop (i + 1))).2 * b), (hnd a b (zs.drop (i + 1))).2 * b) := by
  rw [List.drop_eq_getElem_cons h, gx_mem zs i h]
  rfl
theorem evq_drop (x : Rat) (zs : List Int) (i : Nat) (h : i < zs.length) : evq x (zs.drop i) = evq x (zs.drop (i + 1)) * x + (gx zs i : Rat) := by
  rw [List.drop_eq_getElem_cons h, gx_mem zs i h]
  rfl
theorem hnd_pos {a b : Int} (hb : 0 < b) : ∀ zs, 0 < (hnd a b zs).2
  | [] => (by decide : (0 : Int) < 1)
  | c :: cs => Int.mul_pos (hnd_pos hb cs) hb
theorem hnd_evq {a b : Int} (hb : 0 < b) : ∀ zs, Rat.divInt (hnd a b zs).1 (hnd a b zs).2 = evq (Rat.divInt a b) zs
  | [] => by simp [hnd, evq]
  | c :: cs => by
    have h1 := hnd_pos (a := a) hb cs
    have h2 : (hnd a b cs).2 * b ≠ 0 := by have := Int.mul_pos h1 hb; omega
    have h3 := Rat.divInt_add_divInt ((hnd a b cs).1 * a) c (d₁ := (hnd a b cs).2 * b) (d₂ := 1) h2 (by decide)
    rw [Int.mul_one, Int.mul_one] at h3
    show Rat.divInt ((hnd a b cs).1 * a + c * ((hnd a b cs).2 * b)) ((hnd a b cs).2 * b) = _
    have h4 : Rat.divInt c 1 = (c : Rat) := Rat.num_divInt_den (c : Rat)
    rw [← h3, ← Rat.divInt_mul_divInt, hnd_evq hb cs, h4]
    rfl
theorem hnd_lt {a b : Int} {K L : Nat} (ha : (a.natAbs : Int) < pw L) (hb : (b.natAbs : Int) < pw L) : ∀ (zs : List Int), (∀ j, ((gx zs j).natAbs : Int) < pw K) → (((hnd a b zs).1).natAbs : Int) < pw (1 + zs.length * (L + K + 1)) ∧ (((hnd a b zs).2).natAbs : Int) < pw (1 + zs.length * (L + K + 1))
  | [], _ => by
    refine ⟨pw_pos _, ?_⟩
    show ((1 : Nat) : Int) < pw (1 + 0 * (L + K + 1))
    rw [Nat.zero_mul]
    decide
  | c :: cs, h => by
    obtain ⟨h1, h2⟩ := hnd_lt ha hb cs (fun j => by simpa [gx] using h (j + 1))
    have hc : ((c).natAbs : Int) < pw K := by simpa [gx] using h 0
    have e : 1 + (c :: cs).length * (L + K + 1) = 1 + cs.length * (L + K + 1) + L + K + 1 := by
      simp only [List.length_cons]
      rw [Nat.succ_mul]
      omega
    rw [e]
    generalize 1 + cs.length * (L + K + 1) = A at *
    have p1 := prod_bd h1 ha
    have p2 := prod_bd h2 hb
    have p3 := prod_bd hc p2
    have m1 : pw (A + L) ≤ pw (A + L + K) := pw_mono (by omega)
    have m2 : pw (K + (A + L)) = pw (A + L + K) := by rw [Nat.add_comm]
    have m3 : pw (A + L + K) ≤ pw (A + L + K + 1) := pw_mono (by omega)
    rw [m2] at p3
    have m4 := pw_pos (A + L + K)
    refine ⟨?_, ?_⟩
    · show (((hnd a b cs).1 * a + c * ((hnd a b cs).2 * b)).natAbs : Int) < _
      rw [pw_succ]
      omega
    · show (((hnd a b cs).2 * b).natAbs : Int) < _
      omega
theorem EV.st4 {w : World} {K : Nat} {z : Int} {e : Ent} {g : Nat} {u v x y : Value} (h : EV w K z e) (ho : 0 < e.n → Off g e.p) : EV ((((w.setCell ⟨g, 0, none⟩ u).setCell ⟨g, 1, none⟩ v).setCell ⟨g, 2, none⟩ x).setCell ⟨g, 3, none⟩ y) K z e := (h.set2 (o := 0) ho).set2 (o := 2) ho
theorem EV.offn {w : World} {K : Nat} {z : Int} {e : Ent} (h : EV w K z e) {g : Nat} (hg : w.heap.size ≤ g) : 0 < e.n → Off g e.p := fun h0 a ha k => by
  obtain ⟨xs, h1, h2, h3⟩ := h
  obtain ⟨b, o, hp, hlt⟩ := h1.rd.lt (by rw [h1.len]; exact h0)
  rw [hp] at ha
  cases ha
  dsimp only at k
  omega
/-- Horner's variable behind some rounds. -/
structure HV4 (w wr : World) (T : Nat) (z : Int × Int) (u v : Ent) : Prop where
  b : Bq wr (w.heap.size + 1 + 1) (.bool u.s) (.slice u.p u.n u.c) (.bool v.s) (.slice v.p v.n v.c)
  eu : EV wr T z.1 u
  ed : EV wr T z.2 v
  ou : 0 < u.n → Off (w.heap.size + 1) u.p
  od : 0 < v.n → Off (w.heap.size + 1) v.p
  rb : Bq wr (w.heap.size + 1) (.bool false) (.slice none 0 0) (.bool false) (.slice none 0 0)
  bw : Below w.heap.size w wr
set_option maxHeartbeats 4000000 in
set_option maxRecDepth 100000 in
theorem hornerR_any {w : World} {K L : Nat} {p : Option Addr} {n nc : Nat} {es : List Ent} {zs : List Int} {a b : Int} {e f i j : Ent} (h : PA w K p n nc es zs) (ha : EV w L a e) (hb : EV w L b f) (hi : EV w 1 0 i) (hj : EV w 1 1 j) (hn : n ≤ 1000) (hT : 1 + n * (L + K + 1) < 80) (hKL : K + L ≤ 70) :
    Calls Tryz.prog 85 #[.slice p n nc, .agg #[.bool i.s, .slice i.p i.n i.c, .bool j.s, .slice j.p j.n j.c], .func (.func 86) #[.agg #[.bool e.s, .slice e.p e.n e.c, .bool f.s, .slice f.p f.n f.c]] #[], .func (.func 87) #[.agg #[.bool e.s, .slice e.p e.n e.c, .bool f.s, .slice f.p f.n f.c]] #[]] w fun r w' => ∃ u v : Ent, r = .returned (.agg #[.bool u.s, .slice u.p u.n u.c, .bool v.s, .slice v.p v.n v.c]) ∧ EV w' (1 + n * (L + K + 1)) (hnd a b zs).1 u ∧ EV w' (1 + n * (L + K + 1)) (hnd a b zs).2 v ∧ Below w.heap.size w w' := by
  have HX : Hid (PA w K p n nc es zs ∧ EV w L a e ∧ EV w L b f ∧ (∀ i, i ≤ n → ((hnd a b (zs.drop i)).1.natAbs : Int) < pw (1 + n * (L + K + 1)) ∧ ((hnd a b (zs.drop i)).2.natAbs : Int) < pw (1 + n * (L + K + 1)))) := by
    refine ⟨h, ha, hb, fun i hi => ?_⟩
    have h1 := hnd_lt (K := K) ha.bd hb.bd (zs.drop i) (fun j => by rw [gx_drop]; exact h.gbd _)
    have h2 : (zs.drop i).length ≤ n := by rw [List.length_drop, h.zl]; omega
    have h3 := pw_mono (show 1 + (zs.drop i).length * (L + K + 1) ≤ 1 + n * (L + K + 1) by have := Nat.mul_le_mul_right (L + K + 1) h2; omega)
    exact ⟨by have := h1.1; omega, by have := h1.2; omega⟩
  have hel := h.el
  have hzl := h.zl
  have HK : Hid (1 + n * (L + K + 1) < 80 ∧ 1 ≤ 1 + n * (L + K + 1)) := ⟨hT, by omega⟩
  clear h ha hb hT
  generalize hT : 1 + n * (L + K + 1) = T at *
  clear hT
  go_enter Tryz.func85, Tryz.ntmps85
  go_wp2_with fail
  have HC : Hid (HV4 w (((w.alloc (.cells #[.bool i.s, .slice i.p i.n i.c, .bool j.s, .slice j.p j.n j.c] 52)).alloc (.cells #[.bool false, .slice none 0 0, .bool false, .slice none 0 0] 52)).alloc (.cells #[.bool i.s, .slice i.p i.n i.c, .bool j.s, .slice j.p j.n j.c] 52)) T (hnd a b (zs.drop n)) i j) := by
    rw [List.drop_eq_nil_of_le (by omega)]
    have hB : Below w.heap.size w (((w.alloc (.cells #[.bool i.s, .slice i.p i.n i.c, .bool j.s, .slice j.p j.n j.c] 52)).alloc (.cells #[.bool false, .slice none 0 0, .bool false, .slice none 0 0] 52)).alloc (.cells #[.bool i.s, .slice i.p i.n i.c, .bool j.s, .slice j.p j.n j.c] 52)) := bel_al (bel_al (bel_al (Below.refl _ _)))
    obtain ⟨xi, i1, i2, i3⟩ := hi.below hB
    obtain ⟨xj, j1, j2, j3⟩ := hj.below hB
    have := HK.out.2
    exact ⟨Bq.new _ _ _ _ _ (by simp), ⟨xi, i1, i2, by omega⟩, ⟨xj, j1, j2, by omega⟩, hi.offn (by omega), hj.offn (by omega), (Bq.new _ _ _ _ _ (by simp)).later (bel_al (Below.refl _ _)), hB⟩
  generalize (((w.alloc (.cells #[.bool i.s, .slice i.p i.n i.c, .bool j.s, .slice j.p j.n j.c] 52)).alloc (.cells #[.bool false, .slice none 0 0, .bool false, .slice none 0 0] 52)).alloc (.cells #[.bool i.s, .slice i.p i.n i.c, .bool j.s, .slice j.p j.n j.c] 52)) = W at *
  go_loopw [10] (fun iv wr => ∃ (k : Nat) (u v : Ent), k ≤ n ∧ iv = .int .i64 ((k : Int) - 1) ∧ Hid (HV4 w wr T (hnd a b (zs.drop k)) u v)) (fun iv _ => (intOf iv + 1).toNat)
  case atStart => exact ⟨n, i, j, Nat.le_refl _, by go_num, HC.out⟩
  case round =>
    clear HC
    obtain ⟨k, u, v, hk, rfl, H⟩ := hrel
    have hcs : Hid (k = 0 ∨ ∃ j, k = j + 1) := by cases k with | zero => exact .inl rfl | succ j => exact .inr ⟨j, rfl⟩
    rcases hcs.out with rfl | ⟨l, rfl⟩
    · have hV := H.out
      rw [List.drop_zero] at hV
      obtain ⟨q0, q1, q2, q3, -, -, -, -⟩ := id hV.b
      obtain ⟨r0, r1, r2, r3, f0, f1, f2, f3⟩ := id hV.rb
      have HV : Hid (HV4 w wr T (hnd a b zs) u v) := hV
      clear H hV hcs
      go_wp2
      refine bodyPost_ret (v := .agg #[.bool u.s, .slice u.p u.n u.c, .bool v.s, .slice v.p v.n v.c]) (by simp [results, Tryz.results85, go_sem, r0, r1, r2, r3]) rfl ⟨u, v, rfl, ?_, ?_, ?_⟩
      · exact HV.out.eu.st4 HV.out.ou
      · exact HV.out.ed.st4 HV.out.od
      · exact bset4 HV.out.bw (by omega) _ _ _ _
    · have hV := H.out
      have hP := HX.out.1.below hV.bw
      obtain ⟨c, o, hp, hc⟩ := hP.pl (by omega)
      subst hp
      obtain ⟨c0, c1⟩ := hc l (by omega)
      have he := hP.ev l (by omega)
      have hae := HX.out.2.1.below hV.bw
      have hbe := HX.out.2.2.1.below hV.bw
      obtain ⟨q0, q1, q2, q3, -, -, -, -⟩ := id hV.b
      have i0 : ((l + 1 : Nat) : Int) - 1 = (l : Int) := by omega
      have i1 : (l : Int) < (n : Int) := by omega
      have i2 : (0 : Int) ≤ (l : Int) := by omega
      have HV : Hid (HV4 w wr T (hnd a b (zs.drop (l + 1))) u v) := hV
      have hlt : w.heap.size + 1 + 1 < wr.heap.size := block_lt_of_cell q0
      rw [i0]
      clear hV hP hc hcs H
      go_upto_region 5 with fail
      go_region_with (first
        | (go_at_call 86; go_fit (qtimes_any (hae.below (Below.refl _ _).drew) (hbe.below (Below.refl _ _).drew) (HV.out.eu.below (Below.refl _ _).drew) (HV.out.ed.below (Below.refl _ _).drew) HK.out.1); rintro r v1 ⟨u1, w1, rfl, hN1, hD1, hb1⟩; have hB1 := undrew hb1; have d0 := cell_later hB1 c0; have d1 := cell_later hB1 c1)
        | (go_at_call 87; go_fit (qplus_any (e := e) (f := f) (hN1.ev (by have := HK.out; omega)) (hD1.ev (by have := HK.out; omega)) (he.below hB1) (by omega) (by have := HK.out; omega)); rintro r v2 ⟨u2, rfl, hN2, hb2⟩; have hB2 := bnext' hB1 hb2; obtain ⟨z0, z1, z2, z3, f0, f1, f2, f3⟩ := HV.out.b.later hB2))
      all_goals
        have hnx : HV4 w ((((v2.setCell ⟨w.heap.size + 1 + 1, 0, none⟩ (.bool u2.s)).setCell ⟨w.heap.size + 1 + 1, 1, none⟩ (.slice u2.p u2.n u2.c)).setCell ⟨w.heap.size + 1 + 1, 2, none⟩ (.bool w1.s)).setCell ⟨w.heap.size + 1 + 1, 3, none⟩ (.slice w1.p w1.n w1.c)) T (hnd a b (zs.drop l)) u2 w1 := by
          have hX := HX.out.2.2.2 l (by omega)
          rw [hnd_drop a b zs l (by omega)] at hX ⊢
          have hs := hB1.size
          have hs1 : wr.heap.size ≤ v1.heap.size := hs
          have hN3 := (hN2.fit hX.1).ev (by have := HK.out; omega)
          have hD3 := ((hD1.below hb2).fit hX.2).ev (by have := HK.out; omega)
          have fu : ∀ x, x < wr.heap.size → Off x u2.p := fun x hx a ha e => by have h9 := hN2.frm a ha; omega
          have fd : ∀ x, x < wr.heap.size → Off x w1.p := fun x hx a ha e => by have h9 : wr.heap.size ≤ a.block := hD1.frm a ha; omega
          exact ⟨Bq_set (HV.out.b.later hB2), hN3.st4 (fun _ => fu _ hlt), hD3.st4 (fun _ => fd _ hlt), fun _ => fu _ (by omega), fun _ => fd _ (by omega), Bq_oth (HV.out.rb.later hB2) (by omega), bset4 (bnext' HV.out.bw hB2) (by omega) _ _ _ _⟩
        have HN := (show Hid _ from hnx)
        clear hnx hN1 hN2 hD1 c0 c1 q0 q1 q2 q3 z0 z1 z2 z3 f0 f1 f2 f3 HV d0 d1 he hae hbe
        go_wp2
        refine ⟨⟨l, u2, w1, by omega, by go_num, HN.out⟩, by simp [intOf]⟩
end Go.Proofs.YtgecfnoecmjacaaGreatDoor
