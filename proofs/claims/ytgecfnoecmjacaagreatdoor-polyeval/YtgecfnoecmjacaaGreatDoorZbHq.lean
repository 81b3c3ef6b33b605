/-
  Rationals as the program hands them about; rat.zero, upright.
-/
import Derived.Test.YtgecfnoecmjacaaGreatDoorHgHhZa
import Derived.Test.YtgecfnoecmjacaaGreatDoorGgUn
import Derived.Test.YtgecfnoecmjacaaGreatDoorWfUuUxUt
import Derived.Test.YtgecfnoecmjacaaGreatDoorRaWhWm
import Derived.Test.YtgecfnoecmjacaaGreatDoorWkWlBxOw
import Derived.Test.YtgecfnoecmjacaaGreatDoorRwNjUbVaVg
import Derived.Test.YtgecfnoecmjacaaGreatDoorRkUgUi
import Derived.Deep.DeepFit
namespace Go.Proofs.YtgecfnoecmjacaaGreatDoor
open Go.RowKit
set_option linter.unusedVariables false
set_option linter.unusedSimpArgs false

/-- A variable of four cells. -/
structure Bq (w : World) (r : Nat) (a0 a1 a2 a3 : Value) : Prop where
  c0 : w.cell? ⟨r, 0, none⟩ = some a0
  c1 : w.cell? ⟨r, 1, none⟩ = some a1
  c2 : w.cell? ⟨r, 2, none⟩ = some a2
  c3 : w.cell? ⟨r, 3, none⟩ = some a3
  f0 : w.frozen? ⟨r, 0, none⟩ = false
  f1 : w.frozen? ⟨r, 1, none⟩ = false
  f2 : w.frozen? ⟨r, 2, none⟩ = false
  f3 : w.frozen? ⟨r, 3, none⟩ = false
theorem Bq.lt {w : World} {r : Nat} {a0 a1 a2 a3 : Value} (h : Bq w r a0 a1 a2 a3) : r < w.heap.size := block_lt_of_cell h.c0
theorem Bq.later {w w' : World} {r : Nat} {a0 a1 a2 a3 : Value} (h : Bq w r a0 a1 a2 a3) (hb : Below w.heap.size w w') : Bq w' r a0 a1 a2 a3 := by
  have hr := h.lt
  exact ⟨cell_later hb h.c0, cell_later hb h.c1, cell_later hb h.c2, cell_later hb h.c3, by rw [hb.frozen (p := ⟨r, 0, none⟩) hr]; exact h.f0, by rw [hb.frozen (p := ⟨r, 1, none⟩) hr]; exact h.f1, by rw [hb.frozen (p := ⟨r, 2, none⟩) hr]; exact h.f2, by rw [hb.frozen (p := ⟨r, 3, none⟩) hr]; exact h.f3⟩
theorem Bq.alloc {w : World} {r : Nat} {a0 a1 a2 a3 : Value} (h : Bq w r a0 a1 a2 a3) (o : Obj) : Bq (w.alloc o) r a0 a1 a2 a3 := h.later ((Below.refl _ _).alloc (Nat.le_refl _) o)
theorem Bq.new {w : World} {r : Nat} (a0 a1 a2 a3 : Value) (t : Nat) (hr : r = w.heap.size) : Bq (w.alloc (.cells #[a0, a1, a2, a3] t)) r a0 a1 a2 a3 := by
  subst hr
  refine ⟨?_, ?_, ?_, ?_, ?_, ?_, ?_, ?_⟩ <;> simp [go_sem, World.cell?_alloc_past, World.frozen?_alloc_past]
theorem bset4 {B g : Nat} {a b : World} (h : Below B a b) (hg : B ≤ g) (u v x y : Value) : Below B a ((((b.setCell ⟨g, 0, none⟩ u).setCell ⟨g, 1, none⟩ v).setCell ⟨g, 2, none⟩ x).setCell ⟨g, 3, none⟩ y) :=
  (((h.setCell (p := ⟨g, 0, none⟩) hg u).setCell (p := ⟨g, 1, none⟩) hg v).setCell (p := ⟨g, 2, none⟩) hg x).setCell (p := ⟨g, 3, none⟩) hg y
theorem NI.set4 {B : Nat} {w : World} {s : Bool} {p : Option Addr} {n : Nat} {xs : List Int} {z : Int} (h : NI B w s p n xs z) {g : Nat} (hg : g < B) (u v x y : Value) : NI B ((((w.setCell ⟨g, 0, none⟩ u).setCell ⟨g, 1, none⟩ v).setCell ⟨g, 2, none⟩ x).setCell ⟨g, 3, none⟩ y) s p n xs z :=
  (((h.set (a := ⟨g, 0, none⟩) hg u).set (a := ⟨g, 1, none⟩) hg v).set (a := ⟨g, 2, none⟩) hg x).set (a := ⟨g, 3, none⟩) hg y
theorem AI.setOff {w : World} {p : Option Addr} {n nc : Nat} {xs : List Int} (h : AI w p n nc xs) {a : Addr} (hne : 0 < n → Off a.block p) (v : Value) : AI (w.setCell a v) p n nc xs :=
  ⟨h.len, h.cap, h.bnd, h.sml, fun hx => h.rd.set_other a v (hne (by rw [← h.len]; exact hx)) hx, h.u⟩
theorem AI.set4 {w : World} {p : Option Addr} {n nc : Nat} {xs : List Int} (h : AI w p n nc xs) {g : Nat} (hg : 0 < n → Off g p) (u v x y : Value) : AI ((((w.setCell ⟨g, 0, none⟩ u).setCell ⟨g, 1, none⟩ v).setCell ⟨g, 2, none⟩ x).setCell ⟨g, 3, none⟩ y) p n nc xs :=
  (((h.setOff (a := ⟨g, 0, none⟩) hg u).setOff (a := ⟨g, 1, none⟩) hg v).setOff (a := ⟨g, 2, none⟩) hg x).setOff (a := ⟨g, 3, none⟩) hg y
theorem AI.nil (w : World) : AI w none 0 0 [] := ⟨rfl, Nat.le_refl _, by unfold maxLen; omega, by omega, Rd.nil, fun j => by simp [gx]⟩
theorem divInt_neg2 (a b : Int) : Rat.divInt (-a) (-b) = Rat.divInt a b := by
  have := Rat.divInt_mul_right (n := a) (d := b) (a := -1) (by decide)
  rwa [Int.mul_neg_one, Int.mul_neg_one] at this
set_option maxRecDepth 100000 in
set_option maxHeartbeats 2000000 in
/-- rat.zero. -/
theorem zero_any (w : World) : Calls Tryz.prog 154 #[] w fun e w' => ∃ t q m ys, e = .returned (.agg #[.bool false, .slice none 0 0, .bool t, .slice q m m]) ∧ NI w.heap.size w' t q m ys 1 ∧ m ≤ 1 ∧ Below w.heap.size w w' := by
  go_enter Tryz.func154, Tryz.ntmps154
  go_wp2_with fail
  have hR : Bq (w.alloc (.cells #[.bool false, .slice none 0 0, .bool false, .slice none 0 0] 52)) w.heap.size (.bool false) (.slice none 0 0) (.bool false) (.slice none 0 0) := Bq.new _ _ _ _ _ rfl
  have hW : Below w.heap.size w (w.alloc (.cells #[.bool false, .slice none 0 0, .bool false, .slice none 0 0] 52)) := (Below.refl _ _).alloc (Nat.le_refl _) _
  generalize w.alloc (.cells #[.bool false, .slice none 0 0, .bool false, .slice none 0 0] 52) = W at *
  refine (Of_any 1 _ (by decide) (by decide)).mono ?_
  rintro e w1 ⟨t, q, m, ys, rfl, hN, hn, hb⟩
  have hR1 := hR.later hb
  obtain ⟨r0, r1, r2, r3, f0, f1, f2, f3⟩ := hR1
  have hs := hR.lt
  go_wp2
  refine bodyPost_ret (v := .agg #[.bool false, .slice none 0 0, .bool t, .slice q m m]) (by simp [results, Tryz.results154, go_sem, r0, r1, r2, r3]) rfl ⟨t, q, m, ys, rfl, ?_, hN.le (by decide), ?_⟩
  · exact (hN.set4 hs _ _ _ _).mono hW.size
  · exact bset4 (bnext' hW hb) (Nat.le_refl _) _ _ _ _
/-- What upright answers. -/
def UpPost (K : Nat) (Q : Rat) (n0 m0 : Nat) (p0 q0 : Option Addr) (w : World) (e : Ending) (w' : World) : Prop :=
  ∃ s p n nc xs t q m mc ys, e = .returned (.agg #[.bool s, .slice p n nc, .bool t, .slice q m mc]) ∧ AI w' p n nc xs ∧ AI w' q m mc ys ∧ 0 < ival t ys ∧ Rat.divInt (ival s xs) (ival t ys) = Q ∧ n ≤ K ∧ m ≤ K ∧
    (∀ g, g < w.heap.size → (0 < n0 → Off g p0) → (0 < m0 → Off g q0) → (0 < n → Off g p) ∧ (0 < m → Off g q)) ∧ Below w.heap.size w w'
set_option maxRecDepth 100000 in
set_option maxHeartbeats 2000000 in
theorem upright_any (s t : Bool) (p q : Option Addr) (n nc m mc : Nat) (xs ys : List Int) (w : World) (hA : AI w p n nc xs) (hB : AI w q m mc ys) (K : Nat) (hK : 1 ≤ K) (hn : n ≤ K) (hm : m ≤ K) :
    Calls Tryz.prog 123 #[.agg #[.bool s, .slice p n nc, .bool t, .slice q m mc]] w (UpPost K (Rat.divInt (ival s xs) (ival t ys)) n m p q w) := by
  have hc : Hid (0 < ival t ys ∨ ival t ys = 0 ∨ ival t ys < 0) := by have : 0 < ival t ys ∨ ival t ys = 0 ∨ ival t ys < 0 := by omega
                                                                      exact this
  go_enter Tryz.func123, Tryz.ntmps123
  go_wp2_with fail
  have hA0 : Bq ((w.alloc (.cells #[.bool s, .slice p n nc, .bool t, .slice q m mc] 52)).alloc (.cells #[.bool false, .slice none 0 0, .bool false, .slice none 0 0] 52)) w.heap.size (.bool s) (.slice p n nc) (.bool t) (.slice q m mc) := (Bq.new _ _ _ _ _ rfl).alloc _
  have hR : Bq ((w.alloc (.cells #[.bool s, .slice p n nc, .bool t, .slice q m mc] 52)).alloc (.cells #[.bool false, .slice none 0 0, .bool false, .slice none 0 0] 52)) (w.heap.size + 1) (.bool false) (.slice none 0 0) (.bool false) (.slice none 0 0) := Bq.new _ _ _ _ _ (by simp)
  have hW : Below w.heap.size w ((w.alloc (.cells #[.bool s, .slice p n nc, .bool t, .slice q m mc] 52)).alloc (.cells #[.bool false, .slice none 0 0, .bool false, .slice none 0 0] 52)) := ((Below.refl _ _).alloc (Nat.le_refl _) _).alloc (by simp) _
  generalize (w.alloc (.cells #[.bool s, .slice p n nc, .bool t, .slice q m mc] 52)).alloc (.cells #[.bool false, .slice none 0 0, .bool false, .slice none 0 0] 52) = W at *
  refine (Sign_any t q m mc ys _ (hB.below hW)).mono ?_
  rintro e w1 ⟨rfl, hb⟩
  have hA1 := hA0.later hb
  have hR1 := hR.later hb
  obtain ⟨a0, a1, a2, a3, -, -, -, -⟩ := hA1
  obtain ⟨r0, r1, r2, r3, f0, f1, f2, f3⟩ := hR1
  rcases hc.out with h0 | h0 | h0
  · have hi : isgn (ival t ys) = 1 := isgn_pos h0
    rw [hi]
    go_wp2
    have hB' := bset4 (bnext' hW hb) (g := w.heap.size + 1) (by omega) (.bool s) (.slice p n nc) (.bool t) (.slice q m mc)
    exact bodyPost_ret (v := .agg #[.bool s, .slice p n nc, .bool t, .slice q m mc]) (by simp [results, Tryz.results123, go_sem, r0, r1, r2, r3]) rfl ⟨_, _, _, _, xs, _, _, _, _, ys, rfl, hA.below hB', hB.below hB', h0, rfl, hn, hm, fun g _ h1 h2 => ⟨h1, h2⟩, hB'⟩
  · have hi : isgn (ival t ys) = 0 := isgn_zero h0
    rw [hi]
    go_wp2_with fail
    refine (zero_any w1).mono ?_
    rintro e w2 ⟨t', q', m', ys', rfl, hN, hm', hb2⟩
    have hR2 := (hR.later hb).later hb2
    clear r0 r1 r2 r3 f0 f1 f2 f3
    obtain ⟨r0, r1, r2, r3, f0, f1, f2, f3⟩ := hR2
    have hs := hR.lt
    have hs1 := hb.size
    have hB' := bset4 (bnext' (bnext' hW hb) hb2) (g := w.heap.size + 1) (by omega) (.bool false) (.slice none 0 0) (.bool t') (.slice q' m' m')
    have hN' := hN.set4 (g := w.heap.size + 1) (by omega) (.bool false) (.slice none 0 0) (.bool t') (.slice q' m' m')
    have H0 : Hid (ival t ys = 0) := h0
    clear h0
    go_wp2
    exact bodyPost_ret (v := .agg #[.bool false, .slice none 0 0, .bool t', .slice q' m' m']) (by simp [results, Tryz.results123, go_sem, r0, r1, r2, r3]) rfl ⟨_, _, _, _, [], _, _, _, _, ys', rfl, AI.nil _, hN'.ai (by omega), by rw [hN'.v]; decide, by rw [hN'.v, H0.out, Rat.divInt_zero]; rfl, by omega, by omega, fun g hg _ _ => ⟨fun h => absurd h (Nat.lt_irrefl 0), fun _ => off_from hN'.fr (by have := hW.size; omega)⟩, hB'⟩
  · have hi : isgn (ival t ys) = -1 := isgn_neg h0
    rw [hi]
    have H0 : Hid (ival t ys < 0) := h0
    clear h0
    go_wp2_with fail
    go_region_held3 (fun w' => w'.cell? ⟨w.heap.size, 0, none⟩ = some (.bool s) ∧ w'.cell? ⟨w.heap.size, 1, none⟩ = some (.slice p n nc) ∧ w'.cell? ⟨w.heap.size, 2, none⟩ = some (.bool t) ∧ w'.cell? ⟨w.heap.size, 3, none⟩ = some (.slice q m mc)) (first | with_reducible exact ⟨a0, a1, a2, a3⟩ | with_reducible exact keepc4 ⟨a0, a1, a2, a3⟩ (undrew hb2) | with_reducible exact keepc4 ⟨a0, a1, a2, a3⟩ hB3 | (simp [go_sem, *]; done))
      (first
        | (go_at_call_of 130 (Value.agg #[.bool s, .slice p n nc]); refine (Neg_any s p n nc xs _ (hA.below (bnext' hW hb)).drew).mono ?_; rintro e w2 ⟨s1, p1, n1, x1, rfl, hN1, hn1, hb2⟩)
        | (go_at_call_of 130 (Value.agg #[.bool t, .slice q m mc]); refine (Neg_any t q m mc ys _ (hB.below (bnext' (bnext' hW hb) (undrew hb2)))).mono ?_; rintro e w3 ⟨s2, p2, n2, x2, rfl, hN2, hn2, hb3⟩; have hB3 := bnext' (undrew hb2) hb3; have hR3 := (hR.later hb).later hB3; obtain ⟨r0, r1, r2, r3, f0, f1, f2, f3⟩ := hR3))
    have hs := hR.lt
    have hs1 := hb.size
    have hs2 : w1.heap.size ≤ w2.heap.size := hb2.size
    have hB' := bset4 (bnext' (bnext' hW hb) hB3) (g := w.heap.size + 1) (by omega) (.bool s1) (.slice p1 n1 n1) (.bool s2) (.slice p2 n2 n2)
    have hN1' := (hN1.below hb3).set4 (g := w.heap.size + 1) (show w.heap.size + 1 < w1.heap.size by omega) (.bool s1) (.slice p1 n1 n1) (.bool s2) (.slice p2 n2 n2)
    have hN2' := hN2.set4 (g := w.heap.size + 1) (by omega) (.bool s1) (.slice p1 n1 n1) (.bool s2) (.slice p2 n2 n2)
    clear a0 a1 a2 a3
    go_wp2
    have l1 := hA.sml
    have l2 := hB.sml
    exact bodyPost_ret (v := .agg #[.bool s1, .slice p1 n1 n1, .bool s2, .slice p2 n2 n2]) (by simp [results, Tryz.results123, go_sem, r0, r1, r2, r3]) rfl ⟨_, _, _, _, x1, _, _, _, _, x2, rfl, hN1'.ai (by omega), hN2'.ai (by omega), by rw [hN2'.v, ival_not]; have := H0.out; omega, by rw [hN1'.v, hN2'.v, ival_not, ival_not, divInt_neg2], by omega, by omega, fun g hg _ _ => ⟨fun _ => off_from hN1'.fr (show g < w1.heap.size by have := hW.size; omega), fun _ => off_from hN2'.fr (by have := hW.size; omega)⟩, hB'⟩
end Go.Proofs.YtgecfnoecmjacaaGreatDoor
/-
  upoly.horner over the rationals.
-/
namespace Go.Proofs.YtgecfnoecmjacaaGreatDoor
open Go.RowKit
set_option linter.unusedVariables false
set_option linter.unusedSimpArgs false

theorem NV.st4 {B : Nat} {w : World} {K : Nat} {z : Int} {e : Ent} {g : Nat} {u v x y : Value} (h : NV B w K z e) (ho : Off g e.p) : NV B ((((w.setCell ⟨g, 0, none⟩ u).setCell ⟨g, 1, none⟩ v).setCell ⟨g, 2, none⟩ x).setCell ⟨g, 3, none⟩ y) K z e := by
  exact (h.set2o (o := 0) (fun _ => ho)).set2o (o := 2) (fun _ => ho)
set_option maxHeartbeats 2000000 in
set_option maxRecDepth 100000 in
theorem qtimes_any {w : World} {K L : Nat} {a b c d : Int} {e f g h : Ent} (ha : EV w L a e) (hb : EV w L b f) (hc : EV w K c g) (hd : EV w K d h) (hK : K < 80) :
    Calls Tryz.prog 86 #[.agg #[.bool e.s, .slice e.p e.n e.c, .bool f.s, .slice f.p f.n f.c], .agg #[.bool g.s, .slice g.p g.n g.c, .bool h.s, .slice h.p h.n h.c]] w fun r w' => ∃ u v : Ent, r = .returned (.agg #[.bool u.s, .slice u.p u.n u.c, .bool v.s, .slice v.p v.n v.c]) ∧ NV w.heap.size w' (K + L) (c * a) u ∧ NV w.heap.size w' (K + L) (d * b) v ∧ Below w.heap.size w w' := by
  have hB : Below w.heap.size w (((w.alloc (.cells #[.bool e.s, .slice e.p e.n e.c, .bool f.s, .slice f.p f.n f.c] 100)).alloc (.cells #[.bool g.s, .slice g.p g.n g.c, .bool h.s, .slice h.p h.n h.c] 52)).alloc (.cells #[.bool false, .slice none 0 0, .bool false, .slice none 0 0] 52)) := bel_al (bel_al (bel_al (Below.refl _ _)))
  have hA : Bq (((w.alloc (.cells #[.bool e.s, .slice e.p e.n e.c, .bool f.s, .slice f.p f.n f.c] 100)).alloc (.cells #[.bool g.s, .slice g.p g.n g.c, .bool h.s, .slice h.p h.n h.c] 52)).alloc (.cells #[.bool false, .slice none 0 0, .bool false, .slice none 0 0] 52)) w.heap.size (.bool e.s) (.slice e.p e.n e.c) (.bool f.s) (.slice f.p f.n f.c) := ((Bq.new _ _ _ _ _ rfl).later (bel_al (Below.refl _ _))).later (bel_al (Below.refl _ _))
  have hV : Bq (((w.alloc (.cells #[.bool e.s, .slice e.p e.n e.c, .bool f.s, .slice f.p f.n f.c] 100)).alloc (.cells #[.bool g.s, .slice g.p g.n g.c, .bool h.s, .slice h.p h.n h.c] 52)).alloc (.cells #[.bool false, .slice none 0 0, .bool false, .slice none 0 0] 52)) (w.heap.size + 1) (.bool g.s) (.slice g.p g.n g.c) (.bool h.s) (.slice h.p h.n h.c) := (Bq.new _ _ _ _ _ (by simp)).later (bel_al (Below.refl _ _))
  have hR : Bq (((w.alloc (.cells #[.bool e.s, .slice e.p e.n e.c, .bool f.s, .slice f.p f.n f.c] 100)).alloc (.cells #[.bool g.s, .slice g.p g.n g.c, .bool h.s, .slice h.p h.n h.c] 52)).alloc (.cells #[.bool false, .slice none 0 0, .bool false, .slice none 0 0] 52)) (w.heap.size + 1 + 1) (.bool false) (.slice none 0 0) (.bool false) (.slice none 0 0) := Bq.new _ _ _ _ _ (by simp)
  go_enter Tryz.func86, Tryz.ntmps86
  go_wp2_with fail
  generalize (((w.alloc (.cells #[.bool e.s, .slice e.p e.n e.c, .bool f.s, .slice f.p f.n f.c] 100)).alloc (.cells #[.bool g.s, .slice g.p g.n g.c, .bool h.s, .slice h.p h.n h.c] 52)).alloc (.cells #[.bool false, .slice none 0 0, .bool false, .slice none 0 0] 52)) = W at *
  obtain ⟨a0, a1, a2, a3, -, -, -, -⟩ := id hA
  obtain ⟨k0, k1, k2, k3, -, -, -, -⟩ := id hV
  obtain ⟨r0, r1, r2, r3, f0, f1, f2, f3⟩ := id hR
  have hlt : w.heap.size + 1 + 1 < W.heap.size := block_lt_of_cell r0
  have ha' := ha.below hB
  have hb' := hb.below hB
  have hc' := hc.below hB
  have hd' := hd.below hB
  clear hA hV ha hb hc hd
  go_region_held3 (fun w' => w'.cell? ⟨w.heap.size, 0, none⟩ = some (.bool e.s) ∧ w'.cell? ⟨w.heap.size, 1, none⟩ = some (.slice e.p e.n e.c) ∧ w'.cell? ⟨w.heap.size, 2, none⟩ = some (.bool f.s) ∧ w'.cell? ⟨w.heap.size, 3, none⟩ = some (.slice f.p f.n f.c) ∧ w'.cell? ⟨w.heap.size + 1, 0, none⟩ = some (.bool g.s) ∧ w'.cell? ⟨w.heap.size + 1, 1, none⟩ = some (.slice g.p g.n g.c) ∧ w'.cell? ⟨w.heap.size + 1, 2, none⟩ = some (.bool h.s) ∧ w'.cell? ⟨w.heap.size + 1, 3, none⟩ = some (.slice h.p h.n h.c)) (first | with_reducible exact ⟨a0, a1, a2, a3, k0, k1, k2, k3⟩ | with_reducible exact ⟨cell_later hB1 a0, cell_later hB1 a1, cell_later hB1 a2, cell_later hB1 a3, cell_later hB1 k0, cell_later hB1 k1, cell_later hB1 k2, cell_later hB1 k3⟩ | with_reducible exact ⟨i0, i1, i2, i3, j0, j1, j2, j3⟩ | (simp [go_sem, i0, i1, i2, i3, j0, j1, j2, j3]; done) | (simp [go_sem, *]; done))
    (first
      | (go_at_call_of 69 (Value.agg #[.bool g.s, .slice g.p g.n g.c]); go_fit (Mul_ev (hc'.below (Below.refl _ _).drew) (ha'.below (Below.refl _ _).drew) hK); rintro r v1 ⟨u, rfl, hu', hb1⟩; have hu := unNV hu'; have hB1 := undrew hb1)
      | (go_at_call_of 69 (Value.agg #[.bool h.s, .slice h.p h.n h.c]); go_fit (Mul_ev (hd'.below hB1) (hb'.below hB1) hK); rintro r v2 ⟨v, rfl, hv, hb2⟩; have hB2 := bnext' hB1 hb2; have i0 := cell_later hB2 a0; have i1 := cell_later hB2 a1; have i2 := cell_later hB2 a2; have i3 := cell_later hB2 a3; have j0 := cell_later hB2 k0; have j1 := cell_later hB2 k1; have j2 := cell_later hB2 k2; have j3 := cell_later hB2 k3; obtain ⟨s0, s1, s2, s3, g0, g1, g2, g3⟩ := hR.later hB2))
  have hs := hB.size
  have hs1 := hB1.size
  clear a0 a1 a2 a3 k0 k1 k2 k3
  go_wp2
  refine bodyPost_ret (v := .agg #[.bool u.s, .slice u.p u.n u.c, .bool v.s, .slice v.p v.n v.c]) (by simp [results, Tryz.results86, go_sem, s0, s1, s2, s3]) rfl ⟨u, v, rfl, ?_, ?_, ?_⟩
  · exact (((hu.below hb2).mono hs).st4 (fun a ha e => by have := hu.frm a ha; omega))
  · exact ((hv.mono (by omega)).st4 (fun a ha e => by have := hv.frm a ha; omega))
  · exact bset4 (bnext' hB hB2) (by omega) _ _ _ _
set_option maxHeartbeats 2000000 in
set_option maxRecDepth 100000 in
theorem qplus_any {w : World} {K M : Nat} {c d z : Int} {e f g h i : Ent} (hc : EV w K c g) (hd : EV w K d h) (hz : EV w M z i) (hM : M < 80) (hK : K ≤ 500) :
    Calls Tryz.prog 87 #[.agg #[.bool e.s, .slice e.p e.n e.c, .bool f.s, .slice f.p f.n f.c], .agg #[.bool g.s, .slice g.p g.n g.c, .bool h.s, .slice h.p h.n h.c], .agg #[.bool i.s, .slice i.p i.n i.c]] w fun r w' => ∃ u : Ent, r = .returned (.agg #[.bool u.s, .slice u.p u.n u.c, .bool h.s, .slice h.p h.n h.c]) ∧ NV w.heap.size w' (K + (M + K) + 1) (c + z * d) u ∧ Below w.heap.size w w' := by
  have hB : Below w.heap.size w ((((w.alloc (.cells #[.bool e.s, .slice e.p e.n e.c, .bool f.s, .slice f.p f.n f.c] 100)).alloc (.cells #[.bool g.s, .slice g.p g.n g.c, .bool h.s, .slice h.p h.n h.c] 52)).alloc (.cells #[.bool i.s, .slice i.p i.n i.c] 26)).alloc (.cells #[.bool false, .slice none 0 0, .bool false, .slice none 0 0] 52)) := bel_al (bel_al (bel_al (bel_al (Below.refl _ _))))
  have hV : Bq ((((w.alloc (.cells #[.bool e.s, .slice e.p e.n e.c, .bool f.s, .slice f.p f.n f.c] 100)).alloc (.cells #[.bool g.s, .slice g.p g.n g.c, .bool h.s, .slice h.p h.n h.c] 52)).alloc (.cells #[.bool i.s, .slice i.p i.n i.c] 26)).alloc (.cells #[.bool false, .slice none 0 0, .bool false, .slice none 0 0] 52)) (w.heap.size + 1) (.bool g.s) (.slice g.p g.n g.c) (.bool h.s) (.slice h.p h.n h.c) := ((Bq.new _ _ _ _ _ (by simp)).later (bel_al (Below.refl _ _))).later (bel_al (Below.refl _ _))
  have hI : Bx ((((w.alloc (.cells #[.bool e.s, .slice e.p e.n e.c, .bool f.s, .slice f.p f.n f.c] 100)).alloc (.cells #[.bool g.s, .slice g.p g.n g.c, .bool h.s, .slice h.p h.n h.c] 52)).alloc (.cells #[.bool i.s, .slice i.p i.n i.c] 26)).alloc (.cells #[.bool false, .slice none 0 0, .bool false, .slice none 0 0] 52)) (w.heap.size + 1 + 1) (.bool i.s) (.slice i.p i.n i.c) := (Bx.new _ _ _ (by simp)).later (bel_al (Below.refl _ _))
  have hR : Bq ((((w.alloc (.cells #[.bool e.s, .slice e.p e.n e.c, .bool f.s, .slice f.p f.n f.c] 100)).alloc (.cells #[.bool g.s, .slice g.p g.n g.c, .bool h.s, .slice h.p h.n h.c] 52)).alloc (.cells #[.bool i.s, .slice i.p i.n i.c] 26)).alloc (.cells #[.bool false, .slice none 0 0, .bool false, .slice none 0 0] 52)) (w.heap.size + 1 + 1 + 1) (.bool false) (.slice none 0 0) (.bool false) (.slice none 0 0) := Bq.new _ _ _ _ _ (by simp)
  go_enter Tryz.func87, Tryz.ntmps87
  go_wp2_with fail
  generalize ((((w.alloc (.cells #[.bool e.s, .slice e.p e.n e.c, .bool f.s, .slice f.p f.n f.c] 100)).alloc (.cells #[.bool g.s, .slice g.p g.n g.c, .bool h.s, .slice h.p h.n h.c] 52)).alloc (.cells #[.bool i.s, .slice i.p i.n i.c] 26)).alloc (.cells #[.bool false, .slice none 0 0, .bool false, .slice none 0 0] 52)) = W at *
  obtain ⟨k0, k1, k2, k3, -, -, -, -⟩ := id hV
  obtain ⟨a0, a1, -, -⟩ := id hI
  obtain ⟨r0, r1, r2, r3, f0, f1, f2, f3⟩ := id hR
  have hlt : w.heap.size + 1 + 1 + 1 < W.heap.size := block_lt_of_cell r0
  have hc' := hc.below hB
  have hd' := hd.below hB
  have hz' := hz.below hB
  clear hI hV hc hd hz
  go_region_held3 (fun w' => w'.cell? ⟨w.heap.size + 1 + 1, 0, none⟩ = some (.bool i.s) ∧ w'.cell? ⟨w.heap.size + 1 + 1, 1, none⟩ = some (.slice i.p i.n i.c) ∧ w'.cell? ⟨w.heap.size + 1, 0, none⟩ = some (.bool g.s) ∧ w'.cell? ⟨w.heap.size + 1, 1, none⟩ = some (.slice g.p g.n g.c) ∧ w'.cell? ⟨w.heap.size + 1, 2, none⟩ = some (.bool h.s) ∧ w'.cell? ⟨w.heap.size + 1, 3, none⟩ = some (.slice h.p h.n h.c)) (first | with_reducible exact ⟨a0, a1, k0, k1, k2, k3⟩ | with_reducible exact ⟨cell_later hB1 a0, cell_later hB1 a1, cell_later hB1 k0, cell_later hB1 k1, cell_later hB1 k2, cell_later hB1 k3⟩ | with_reducible exact ⟨i0, i1, j0, j1, j2, j3⟩ | (simp [go_sem, i0, i1, j0, j1, j2, j3]; done) | (simp [go_sem, *]; done))
    (first
      | (go_at_call 69; go_fit (Mul_ev (hz'.below (Below.refl _ _).drew) (hd'.below (Below.refl _ _).drew) hM); rintro r v1 ⟨u1, rfl, hu', hb1⟩; have hu1 := unNV hu'; have hB1 := undrew hb1)
      | (go_at_call 58; go_fit (Add_ev (hc'.below hB1) (hu1.ev (by omega))); rintro r v2 ⟨u, rfl, hu, hb2⟩; have hB2 := bnext' hB1 hb2; have i0 := cell_later hB2 a0; have i1 := cell_later hB2 a1; have j0 := cell_later hB2 k0; have j1 := cell_later hB2 k1; have j2 := cell_later hB2 k2; have j3 := cell_later hB2 k3; obtain ⟨s0, s1, s2, s3, g0, g1, g2, g3⟩ := hR.later hB2))
  all_goals
    have hs := hB.size
    have hs1 := hB1.size
    clear a0 a1 k0 k1 k2 k3
    go_wp2
    refine bodyPost_ret (v := .agg #[.bool u.s, .slice u.p u.n u.c, .bool h.s, .slice h.p h.n h.c]) (by simp [results, Tryz.results87, go_sem, s0, s1, s2, s3]) rfl ⟨u, rfl, ?_, ?_⟩
    · exact ((hu.mono (by omega)).st4 (fun a ha e => by have := hu.frm a ha; omega))
    · exact bset4 (bnext' hB hB2) (by omega) _ _ _ _
end Go.Proofs.YtgecfnoecmjacaaGreatDoor
