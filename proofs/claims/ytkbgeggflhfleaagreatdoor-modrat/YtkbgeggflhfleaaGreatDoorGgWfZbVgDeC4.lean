/-
  limbs.Gcd of numbers of fewer than 150 limbs.
-/
import Derived.Test.YtkbgeggflhfleaaGreatDoorGf
import Derived.Test.YtkbgeggflhfleaaGreatDoorWeNi
import Derived.Test.YtkbgeggflhfleaaGreatDoorC0C1C2Za
import Derived.Test.YtkbgeggflhfleaaGreatDoorUaWhPnWk
import Derived.Test.YtkbgeggflhfleaaGreatDoorWlBxBbCvNjUbUcUdOwRaWmBe
namespace Go.Proofs.YtkbgeggflhfleaaGreatDoor
open Go.RowKit
set_option linter.unusedVariables false
set_option linter.unusedSimpArgs false
set_option maxHeartbeats 8000000
theorem gcd_ival (s t : Bool) (xs ys : List Int) : Int.gcd (ival s xs) (ival t ys) = Int.gcd (val xs) (val ys) := by
  cases s <;> cases t <;> simp [ival, Int.gcd_neg, Int.neg_gcd]
set_option maxRecDepth 100000 in
theorem Gcd_gen (s t : Bool) (p q : Option Addr) (n nc m mc : Nat) (xs ys : List Int) (w : World) (hA : AI w p n nc xs) (hB : AI w q m mc ys) (K : Nat) (hK2 : 2 ≤ K) (hK : K ≤ 150) (hn : n < K) (hm : m < K) :
    Calls Tryz.prog 121 #[.agg #[.bool s, .slice p n nc], .agg #[.bool t, .slice q m mc]] w fun e w' => ∃ s' p' n' zs, e = .returned (.agg #[.bool s', .slice p' n' n']) ∧ NI w.heap.size w' s' p' n' zs (Int.gcd (ival s xs) (ival t ys)) ∧ n' ≤ K ∧ Below w.heap.size w w' := by
  have tx := tlen_le xs
  have ty := tlen_le ys
  have lx := hA.len
  have ly := hB.len
  rw [gcd_ival]
  obtain ⟨g, hg⟩ : ∃ g, g = Int.gcd (val xs) (val ys) := ⟨_, rfl⟩
  have HG : Hid (g = Int.gcd (val xs) (val ys)) := hg
  rw [← hg]
  clear hg
  go_enter Tryz.func121, Tryz.ntmps121
  go_wp2
  have hX := boxes3' w (.bool s) (.slice p n nc) (.bool t) (.slice q m mc) (.bool false) (.slice none 0 0) 30 30 30
  generalize ((w.alloc (Obj.cells #[Value.bool s, Value.slice p n nc] 30)).alloc (Obj.cells #[Value.bool t, Value.slice q m mc] 30)).alloc (Obj.cells #[Value.bool false, Value.slice none 0 0] 30) = W at *
  have hA' := hA.below hX.below
  have hB' := hB.below hX.below
  have k1 := hX.ca1
  have k3 := hX.cb1
  go_region_held3 (fun w' => w'.cell? ⟨w.heap.size, 1, none⟩ = some (.slice p n nc) ∧ w'.cell? ⟨w.heap.size + 1, 1, none⟩ = some (.slice q m mc)) (first | (simp [go_sem, *]; done) | exact keepc2 (by assumption) (by assumption))
    (first
      | (go_at_call_of 116 (Value.slice p n nc); refine (trim_any p n nc xs _ hA.len hA.cap hA.bnd ?_).mono ?_; exact hA'.rd.drew; rintro e w' ⟨rfl, rfl⟩)
      | (go_at_call_of 116 (Value.slice q m mc); refine (trim_any q m mc ys _ hB.len hB.cap hB.bnd ?_).mono ?_; exact hB'.rd.drew; rintro e w' ⟨rfl, rfl⟩)
      | (go_at_call 169; refine (divisor_any p q (tlen xs) nc (tlen ys) mc (tr xs) (tr ys) _ hA'.tr.drew hB'.tr.drew K hK2 hK (by omega) (by omega) (tlen_tr xs) (tlen_tr ys)).mono ?_; rintro e w1 ⟨qz, nz, ncz, zs, rfl, z1, z2, z3, z4, z5, z6, z7, z8, z9, hb1⟩)
      | (go_at_call 65; refine (number_any false qz nz ncz zs _ z3 z4 z5 ?_).mono ?_; exact z1; rintro e w2 ⟨rfl, hb2⟩; obtain ⟨c0, c1, f0, f1⟩ := resbox ((undrew hb1).trans (hb2.mono (undrew hb1).size)) hX.cr0 hX.cr1 hX.fr0 hX.fr1))
  go_wp2
  have hsz := hX.size
  have htl := tlen_le zs
  have hv : ival false zs = g := by
    rw [ival, if_neg (by decide), z7, HG.out, val_tr, val_tr]
  have hbb := undrew hb1
  have hs1 := hbb.size
  have hN := ((ni_number (B := W.heap.size) false z1 z2 z8 z9).below hb2)
  rw [hv] at hN
  refine bodyPost_ret (v := .agg #[.bool (nsg false zs), .slice (nad qz zs) (tlen zs) (tlen zs)]) (by simp [results, Tryz.results121, go_sem, c0, c1]) rfl ⟨_, _, _, tr zs, rfl, ?_, by omega, ?_⟩
  · exact ((hN.set (by simp; omega) _).set (by simp; omega) _).mono (by omega)
  · exact ((hX.below.trans (bnext' hbb hb2 |>.mono (by omega))).setCell (by simp; omega) _).setCell (by simp; omega) _
theorem Neg_any (s : Bool) (p : Option Addr) (n nc : Nat) (xs : List Int) (w : World) (hA : AI w p n nc xs) :
    Calls Tryz.prog 120 #[.agg #[.bool s, .slice p n nc]] w fun e w' => ∃ s' p' n' ys, e = .returned (.agg #[.bool s', .slice p' n' n']) ∧ NI w.heap.size w' s' p' n' ys (ival (!s) xs) ∧ n' ≤ n ∧ Below w.heap.size w w' := by
  have ht := tlen_le xs
  have hl := hA.len
  have hs := hA.sml
  go_enter Tryz.func120, Tryz.ntmps120
  go_wp2
  go_region_held3 (fun w' => w'.cell? ⟨w.heap.size, 0, none⟩ = some (.bool s) ∧ w'.cell? ⟨w.heap.size, 1, none⟩ = some (.slice p n nc)) (first | (simp [go_sem, *, World.cell?_alloc_past]; done) | exact keepc2 (by assumption) (by assumption))
    (first
      | (go_at_call 116; refine (trim_any p n nc xs _ hA.len hA.cap hA.bnd ?_).mono ?_; exact ((hA.rd.alloc _).alloc _).drew; rintro e w' ⟨rfl, rfl⟩)
      | (go_at_call 168; refine (clone_any p (tlen xs) nc (tr xs) _ (length_tr xs) (by omega) ?_).mono ?_; exact ((hA.rd.tr.alloc _).alloc _).drew; rintro e w' ⟨rfl, rfl⟩)
      | (go_at_call 65; refine (number_any (!s) (some ⟨w.heap.size + 1 + 1, 0, none⟩) (tlen xs) (tlen xs) (tr xs) _ (length_tr xs) (Nat.le_refl _) (by unfold maxLen; omega) ?_).mono ?_; exact (Row.new2 w _ _ _ _ _).drew.rd_all; rintro e w1 ⟨rfl, hb⟩; obtain ⟨c0, c1, f0, f1⟩ := resbox (r := w.heap.size + 1) (u := .bool false) (v := .slice none 0 0) hb (by simp [go_sem, World.cell?_alloc_past]) (by simp [go_sem, World.cell?_alloc_past]) (by simp [go_sem]) (by simp [go_sem])))
  go_wp2
  refine bodyPost_ret (v := .agg #[.bool (nsg (!s) (tr xs)), .slice (nad (some ⟨w.heap.size + 1 + 1, 0, none⟩) (tr xs)) (tlen (tr xs)) (tlen (tr xs))]) (by simp [results, Tryz.results120, go_sem, c0, c1]) rfl ⟨_, _, _, tr (tr xs), rfl, ?_, ?_, ?_⟩
  · rw [← ival_tr (!s) xs]
    exact ((((ni_number (B := w.heap.size + 1 + 1) (!s) (Row.new2 w _ _ _ _ _).drew.rd_all (u32_tr hA.u) (from_new (Nat.le_refl _)) ((Row.new2 w _ _ _ _ _).drew.fz 0)).below hb).set (by simp) _).set (by simp) _).mono (by omega)
  · rw [tlen_tr]; omega
  · exact ((((((Below.refl _ _).alloc (Nat.le_refl _) _).alloc (by simp) _).alloc (by simp; omega) _).drew.trans (hb.mono (by simp; omega))).setCell (by simp) _).setCell (by simp) _
structure Bq (w : World) (r : Nat) (a0 a1 a2 a3 : Value) : Prop where
  c0 : w.cell? ⟨r, 0, none⟩ = some a0
  c1 : w.cell? ⟨r, 1, none⟩ = some a1
  c2 : w.cell? ⟨r, 2, none⟩ = some a2
  c3 : w.cell? ⟨r, 3, none⟩ = some a3
  f0 : w.frozen? ⟨r, 0, none⟩ = false
  f1 : w.frozen? ⟨r, 1, none⟩ = false
  f2 : w.frozen? ⟨r, 2, none⟩ = false
  f3 : w.frozen? ⟨r, 3, none⟩ = false
theorem Bq.lt {w : World} {r : Nat} {a0 a1 a2 a3 : Value} (h : Bq w r a0 a1 a2 a3) : r < w.heap.size := block_lt_of_cell h.c0
theorem Bq.later {w w' : World} {r : Nat} {a0 a1 a2 a3 : Value} (h : Bq w r a0 a1 a2 a3) (hb : Below w.heap.size w w') : Bq w' r a0 a1 a2 a3 := by
  have hr := h.lt
  exact ⟨cell_later hb h.c0, cell_later hb h.c1, cell_later hb h.c2, cell_later hb h.c3, by rw [hb.frozen (p := ⟨r, 0, none⟩) hr]; exact h.f0, by rw [hb.frozen (p := ⟨r, 1, none⟩) hr]; exact h.f1, by rw [hb.frozen (p := ⟨r, 2, none⟩) hr]; exact h.f2, by rw [hb.frozen (p := ⟨r, 3, none⟩) hr]; exact h.f3⟩
theorem Bq.alloc {w : World} {r : Nat} {a0 a1 a2 a3 : Value} (h : Bq w r a0 a1 a2 a3) (o : Obj) : Bq (w.alloc o) r a0 a1 a2 a3 := h.later ((Below.refl _ _).alloc (Nat.le_refl _) o)
theorem Bq.new {w : World} {r : Nat} (a0 a1 a2 a3 : Value) (t : Nat) (hr : r = w.heap.size) : Bq (w.alloc (.cells #[a0, a1, a2, a3] t)) r a0 a1 a2 a3 := by
  subst hr
  refine ⟨?_, ?_, ?_, ?_, ?_, ?_, ?_, ?_⟩ <;> simp [go_sem, World.cell?_alloc_past, World.frozen?_alloc_past]
theorem bset4 {B g : Nat} {a b : World} (h : Below B a b) (hg : B ≤ g) (u v x y : Value) : Below B a ((((b.setCell ⟨g, 0, none⟩ u).setCell ⟨g, 1, none⟩ v).setCell ⟨g, 2, none⟩ x).setCell ⟨g, 3, none⟩ y) :=
  (((h.setCell (p := ⟨g, 0, none⟩) hg u).setCell (p := ⟨g, 1, none⟩) hg v).setCell (p := ⟨g, 2, none⟩) hg x).setCell (p := ⟨g, 3, none⟩) hg y
theorem NI.set4 {B : Nat} {w : World} {s : Bool} {p : Option Addr} {n : Nat} {xs : List Int} {z : Int} (h : NI B w s p n xs z) {g : Nat} (hg : g < B) (u v x y : Value) : NI B ((((w.setCell ⟨g, 0, none⟩ u).setCell ⟨g, 1, none⟩ v).setCell ⟨g, 2, none⟩ x).setCell ⟨g, 3, none⟩ y) s p n xs z :=
  (((h.set (a := ⟨g, 0, none⟩) hg u).set (a := ⟨g, 1, none⟩) hg v).set (a := ⟨g, 2, none⟩) hg x).set (a := ⟨g, 3, none⟩) hg y
theorem AI.setOff {w : World} {p : Option Addr} {n nc : Nat} {xs : List Int} (h : AI w p n nc xs) {a : Addr} (hne : 0 < n → Off a.block p) (v : Value) : AI (w.setCell a v) p n nc xs :=
  ⟨h.len, h.cap, h.bnd, h.sml, fun hx => h.rd.set_other a v (hne (by rw [← h.len]; exact hx)) hx, h.u⟩
theorem AI.set4 {w : World} {p : Option Addr} {n nc : Nat} {xs : List Int} (h : AI w p n nc xs) {g : Nat} (hg : 0 < n → Off g p) (u v x y : Value) : AI ((((w.setCell ⟨g, 0, none⟩ u).setCell ⟨g, 1, none⟩ v).setCell ⟨g, 2, none⟩ x).setCell ⟨g, 3, none⟩ y) p n nc xs :=
  (((h.setOff (a := ⟨g, 0, none⟩) hg u).setOff (a := ⟨g, 1, none⟩) hg v).setOff (a := ⟨g, 2, none⟩) hg x).setOff (a := ⟨g, 3, none⟩) hg y
theorem AI.nil (w : World) : AI w none 0 0 [] := ⟨rfl, Nat.le_refl _, by unfold maxLen; omega, by omega, Rd.nil, fun j => by simp [gx]⟩
theorem divInt_neg2 (a b : Int) : Rat.divInt (-a) (-b) = Rat.divInt a b := by
  have := Rat.divInt_mul_right (n := a) (d := b) (a := -1) (by decide)
  rwa [Int.mul_neg_one, Int.mul_neg_one] at this
set_option maxRecDepth 100000 in
theorem zero_any (w : World) : Calls Tryz.prog 119 #[] w fun e w' => ∃ t q m ys, e = .returned (.agg #[.bool false, .slice none 0 0, .bool t, .slice q m m]) ∧ NI w.heap.size w' t q m ys 1 ∧ m ≤ 1 ∧ Below w.heap.size w w' := by
  go_enter Tryz.func119, Tryz.ntmps119
  go_wp2_with fail
  have hR : Bq (w.alloc (.cells #[.bool false, .slice none 0 0, .bool false, .slice none 0 0] 32)) w.heap.size (.bool false) (.slice none 0 0) (.bool false) (.slice none 0 0) := Bq.new _ _ _ _ _ rfl
  have hW : Below w.heap.size w (w.alloc (.cells #[.bool false, .slice none 0 0, .bool false, .slice none 0 0] 32)) := (Below.refl _ _).alloc (Nat.le_refl _) _
  generalize w.alloc (.cells #[.bool false, .slice none 0 0, .bool false, .slice none 0 0] 32) = W at *
  refine (Of_any 1 _ (by decide) (by decide)).mono ?_
  rintro e w1 ⟨t, q, m, ys, rfl, hN, hn, hb⟩
  have hR1 := hR.later hb
  obtain ⟨r0, r1, r2, r3, f0, f1, f2, f3⟩ := hR1
  have hs := hR.lt
  go_wp2
  refine bodyPost_ret (v := .agg #[.bool false, .slice none 0 0, .bool t, .slice q m m]) (by simp [results, Tryz.results119, go_sem, r0, r1, r2, r3]) rfl ⟨t, q, m, ys, rfl, ?_, hN.le (by decide), ?_⟩
  · exact (hN.set4 hs _ _ _ _).mono hW.size
  · exact bset4 (bnext' hW hb) (Nat.le_refl _) _ _ _ _
def UpPost (K : Nat) (Q : Rat) (n0 m0 : Nat) (p0 q0 : Option Addr) (w : World) (e : Ending) (w' : World) : Prop :=
  ∃ s p n nc xs t q m mc ys, e = .returned (.agg #[.bool s, .slice p n nc, .bool t, .slice q m mc]) ∧ AI w' p n nc xs ∧ AI w' q m mc ys ∧ 0 < ival t ys ∧ Rat.divInt (ival s xs) (ival t ys) = Q ∧ n ≤ K ∧ m ≤ K ∧
    (∀ g, g < w.heap.size → (0 < n0 → Off g p0) → (0 < m0 → Off g q0) → (0 < n → Off g p) ∧ (0 < m → Off g q)) ∧ Below w.heap.size w w'
set_option maxRecDepth 100000 in
theorem upright_any (s t : Bool) (p q : Option Addr) (n nc m mc : Nat) (xs ys : List Int) (w : World) (hA : AI w p n nc xs) (hB : AI w q m mc ys) (K : Nat) (hK : 1 ≤ K) (hn : n ≤ K) (hm : m ≤ K) :
    Calls Tryz.prog 68 #[.agg #[.bool s, .slice p n nc, .bool t, .slice q m mc]] w (UpPost K (Rat.divInt (ival s xs) (ival t ys)) n m p q w) := by
  have hc : Hid (0 < ival t ys ∨ ival t ys = 0 ∨ ival t ys < 0) := by have : 0 < ival t ys ∨ ival t ys = 0 ∨ ival t ys < 0 := by omega
                                                                      exact this
  go_enter Tryz.func68, Tryz.ntmps68
  go_wp2_with fail
  have hA0 : Bq ((w.alloc (.cells #[.bool s, .slice p n nc, .bool t, .slice q m mc] 32)).alloc (.cells #[.bool false, .slice none 0 0, .bool false, .slice none 0 0] 32)) w.heap.size (.bool s) (.slice p n nc) (.bool t) (.slice q m mc) := (Bq.new _ _ _ _ _ rfl).alloc _
  have hR : Bq ((w.alloc (.cells #[.bool s, .slice p n nc, .bool t, .slice q m mc] 32)).alloc (.cells #[.bool false, .slice none 0 0, .bool false, .slice none 0 0] 32)) (w.heap.size + 1) (.bool false) (.slice none 0 0) (.bool false) (.slice none 0 0) := Bq.new _ _ _ _ _ (by simp)
  have hW : Below w.heap.size w ((w.alloc (.cells #[.bool s, .slice p n nc, .bool t, .slice q m mc] 32)).alloc (.cells #[.bool false, .slice none 0 0, .bool false, .slice none 0 0] 32)) := ((Below.refl _ _).alloc (Nat.le_refl _) _).alloc (by simp) _
  generalize (w.alloc (.cells #[.bool s, .slice p n nc, .bool t, .slice q m mc] 32)).alloc (.cells #[.bool false, .slice none 0 0, .bool false, .slice none 0 0] 32) = W at *
  refine (Sign_any t q m mc ys _ (hB.below hW)).mono ?_
  rintro e w1 ⟨rfl, hb⟩
  have hA1 := hA0.later hb
  have hR1 := hR.later hb
  obtain ⟨a0, a1, a2, a3, -, -, -, -⟩ := hA1
  obtain ⟨r0, r1, r2, r3, f0, f1, f2, f3⟩ := hR1
  rcases hc.out with h0 | h0 | h0
  · have hi : isgn (ival t ys) = 1 := isgn_pos h0
    rw [hi]
    go_wp2
    have hB' := bset4 (bnext' hW hb) (g := w.heap.size + 1) (by omega) (.bool s) (.slice p n nc) (.bool t) (.slice q m mc)
    exact bodyPost_ret (v := .agg #[.bool s, .slice p n nc, .bool t, .slice q m mc]) (by simp [results, Tryz.results68, go_sem, r0, r1, r2, r3]) rfl ⟨_, _, _, _, xs, _, _, _, _, ys, rfl, hA.below hB', hB.below hB', h0, rfl, hn, hm, fun g _ h1 h2 => ⟨h1, h2⟩, hB'⟩
  · have hi : isgn (ival t ys) = 0 := isgn_zero h0
    rw [hi]
    go_wp2_with fail
    refine (zero_any w1).mono ?_
    rintro e w2 ⟨t', q', m', ys', rfl, hN, hm', hb2⟩
    have hR2 := (hR.later hb).later hb2
    clear r0 r1 r2 r3 f0 f1 f2 f3
    obtain ⟨r0, r1, r2, r3, f0, f1, f2, f3⟩ := hR2
    have hs := hR.lt
    have hs1 := hb.size
    have hB' := bset4 (bnext' (bnext' hW hb) hb2) (g := w.heap.size + 1) (by omega) (.bool false) (.slice none 0 0) (.bool t') (.slice q' m' m')
    have hN' := hN.set4 (g := w.heap.size + 1) (by omega) (.bool false) (.slice none 0 0) (.bool t') (.slice q' m' m')
    have H0 : Hid (ival t ys = 0) := h0
    clear h0
    go_wp2
    exact bodyPost_ret (v := .agg #[.bool false, .slice none 0 0, .bool t', .slice q' m' m']) (by simp [results, Tryz.results68, go_sem, r0, r1, r2, r3]) rfl ⟨_, _, _, _, [], _, _, _, _, ys', rfl, AI.nil _, hN'.ai (by omega), by rw [hN'.v]; decide, by rw [hN'.v, H0.out, Rat.divInt_zero]; rfl, by omega, by omega, fun g hg _ _ => ⟨fun h => absurd h (Nat.lt_irrefl 0), fun _ => off_from hN'.fr (by have := hW.size; omega)⟩, hB'⟩
  · have hi : isgn (ival t ys) = -1 := isgn_neg h0
    rw [hi]
    have H0 : Hid (ival t ys < 0) := h0
    clear h0
    go_wp2_with fail
    go_region_held3 (fun w' => w'.cell? ⟨w.heap.size, 0, none⟩ = some (.bool s) ∧ w'.cell? ⟨w.heap.size, 1, none⟩ = some (.slice p n nc) ∧ w'.cell? ⟨w.heap.size, 2, none⟩ = some (.bool t) ∧ w'.cell? ⟨w.heap.size, 3, none⟩ = some (.slice q m mc)) (first | with_reducible exact ⟨a0, a1, a2, a3⟩ | with_reducible exact keepc4 ⟨a0, a1, a2, a3⟩ (undrew hb2) | with_reducible exact keepc4 ⟨a0, a1, a2, a3⟩ hB3 | (simp [go_sem, *]; done))
      (first
        | (go_at_call_of 120 (Value.agg #[.bool s, .slice p n nc]); refine (Neg_any s p n nc xs _ (hA.below (bnext' hW hb)).drew).mono ?_; rintro e w2 ⟨s1, p1, n1, x1, rfl, hN1, hn1, hb2⟩)
        | (go_at_call_of 120 (Value.agg #[.bool t, .slice q m mc]); refine (Neg_any t q m mc ys _ (hB.below (bnext' (bnext' hW hb) (undrew hb2)))).mono ?_; rintro e w3 ⟨s2, p2, n2, x2, rfl, hN2, hn2, hb3⟩; have hB3 := bnext' (undrew hb2) hb3; have hR3 := (hR.later hb).later hB3; obtain ⟨r0, r1, r2, r3, f0, f1, f2, f3⟩ := hR3))
    have hs := hR.lt
    have hs1 := hb.size
    have hs2 : w1.heap.size ≤ w2.heap.size := hb2.size
    have hB' := bset4 (bnext' (bnext' hW hb) hB3) (g := w.heap.size + 1) (by omega) (.bool s1) (.slice p1 n1 n1) (.bool s2) (.slice p2 n2 n2)
    have hN1' := (hN1.below hb3).set4 (g := w.heap.size + 1) (show w.heap.size + 1 < w1.heap.size by omega) (.bool s1) (.slice p1 n1 n1) (.bool s2) (.slice p2 n2 n2)
    have hN2' := hN2.set4 (g := w.heap.size + 1) (by omega) (.bool s1) (.slice p1 n1 n1) (.bool s2) (.slice p2 n2 n2)
    clear a0 a1 a2 a3
    go_wp2
    have l1 := hA.sml
    have l2 := hB.sml
    exact bodyPost_ret (v := .agg #[.bool s1, .slice p1 n1 n1, .bool s2, .slice p2 n2 n2]) (by simp [results, Tryz.results68, go_sem, r0, r1, r2, r3]) rfl ⟨_, _, _, _, x1, _, _, _, _, x2, rfl, hN1'.ai (by omega), hN2'.ai (by omega), by rw [hN2'.v, ival_not]; have := H0.out; omega, by rw [hN1'.v, hN2'.v, ival_not, ival_not, divInt_neg2], by omega, by omega, fun g hg _ _ => ⟨fun _ => off_from hN1'.fr (show g < w1.heap.size by have := hW.size; omega), fun _ => off_from hN2'.fr (by have := hW.size; omega)⟩, hB'⟩
end Go.Proofs.YtkbgeggflhfleaaGreatDoor
namespace Go.Proofs.YtkbgeggflhfleaaGreatDoor.Rs
open Go.RowKit Go.Proofs.YtkbgeggflhfleaaGreatDoor
set_option linter.unusedVariables false
set_option linter.unusedSimpArgs false
def rto (m : Nat) (z y : Int) : Int := if y % (m : Int) = 0 then 0 else (z % (m : Int)) * ((y % (m : Int)) ^ (m - 2) % (m : Int)) % (m : Int)
theorem rto_bd {m : Nat} (hm : 2 ≤ m) (z y : Int) : 0 ≤ rto m z y ∧ rto m z y < m := by
  unfold rto
  split
  · omega
  · exact ⟨Int.emod_nonneg _ (by omega), Int.emod_lt_of_pos _ (by omega)⟩
def erp (m : Nat) (y : Int) : Int := if y % (m : Int) = 0 then 7 else 0
theorem ratio_any {w : World} {K L : Nat} {z y : Int} {e f : Ent} (h : EV w K z e) (k : EV w L y f) (m : Nat) (hm : 2 ≤ m) (hm2 : m ≤ 2147483647) :
    Calls Tryz.prog 27 #[.int .u64 m, .agg #[.bool e.s, .slice e.p e.n e.c, .bool f.s, .slice f.p f.n f.c]] w fun r w' => r = .returned (.tuple #[.int .u64 (rto m z y), .int .i64 (erp m y)]) ∧ Below w.heap.size w w' := by
  obtain ⟨es, ep, en, ec⟩ := e
  obtain ⟨fs, fp, fn, fc⟩ := f
  have HE : Hid (EV w K z ⟨es, ep, en, ec⟩ ∧ EV w L y ⟨fs, fp, fn, fc⟩) := ⟨h, k⟩
  simp only
  clear h k
  have hal := bel_al (o := .cells #[.bool es, .slice ep en ec, .bool fs, .slice fp fn fc] 32) (Below.refl w.heap.size w)
  have hB0 : Bq (w.alloc (.cells #[.bool es, .slice ep en ec, .bool fs, .slice fp fn fc] 32)) w.heap.size (.bool es) (.slice ep en ec) (.bool fs) (.slice fp fn fc) := Bq.new _ _ _ _ _ rfl
  have ho := of_ev (HE.out.2.below hal) (m : Int) (by omega) (by omega)
  have y0 := Int.emod_nonneg y (show (m : Int) ≠ 0 by omega)
  have y1 := Int.emod_lt_of_pos y (show (0 : Int) < (m : Int) by omega)
  simp only at ho
  go_enter Tryz.func27, Tryz.ntmps27
  go_wp2_with fail
  generalize w.alloc (.cells #[.bool es, .slice ep en ec, .bool fs, .slice fp fn fc] 32) = W at *
  go_fit ho
  rintro r w1 ⟨rfl, hb1⟩
  clear ho
  have HB1 : Hid (Below w.heap.size w w1) := bnext' hal hb1
  obtain ⟨c0, c1, -, -, -, -, -, -⟩ := hB0.later hb1
  clear hb1 hB0 hal
  by_cases hz : y % (m : Int) = 0
  · have HR : Hid (rto m z y = 0 ∧ erp m y = 7) := ⟨if_pos hz, if_pos hz⟩
    rw [hz]
    clear hz y0 y1 c0 c1
    go_wp2
    go_ret2
    exact ⟨by rw [HR.out.1, HR.out.2]; rfl, HB1.out⟩
  · have d1 : ((y % (m : Int)) == 0) = false := by rw [beq_eq_false_iff_ne]; exact hz
    have HR : Hid (rto m z y = (z % (m : Int)) * ((y % (m : Int)) ^ (m - 2) % (m : Int)) % (m : Int) ∧ erp m y = 0) := ⟨if_neg hz, if_neg hz⟩
    have ho2 := of_ev (HE.out.1.below HB1.out) (m : Int) (by omega) (by omega)
    have z0 := Int.emod_nonneg z (show (m : Int) ≠ 0 by omega)
    have z1 := Int.emod_lt_of_pos z (show (0 : Int) < (m : Int) by omega)
    have i0 := Int.emod_nonneg ((y % (m : Int)) ^ (m - 2)) (show (m : Int) ≠ 0 by omega)
    have i1 := Int.emod_lt_of_pos ((y % (m : Int)) ^ (m - 2)) (show (0 : Int) < (m : Int) by omega)
    simp only at ho2
    generalize hY : y % (m : Int) = Y at *
    have HY := (show Hid _ from hY)
    clear hY
    go_wp2_with fail
    go_fit ho2
    rintro r w2 ⟨rfl, hb2⟩
    clear ho2 c0 c1
    generalize z % (m : Int) = Z at *
    have hin := inverse_any m Y w2 hm hm2 y0 y1
    go_wp2_with fail
    go_fit hin
    rintro r w3 ⟨rfl, hw⟩
    subst w3
    clear hin
    generalize Y ^ (m - 2) % (m : Int) = I at *
    have htm := times_any (m : Int) Z I w2 (by omega) (by omega) z0 z1 i0 i1
    go_wp2_with fail
    go_fit htm
    rintro r w3 ⟨rfl, hw⟩
    subst w3
    clear htm
    have HB2 : Hid (Below w.heap.size w w2) := bnext' HB1.out hb2
    clear hb2
    generalize Z * I % (m : Int) = V at *
    go_wp2
    go_ret2
    exact ⟨by rw [HR.out.1, HR.out.2]; rfl, HB2.out⟩
theorem inv_facts {m : Nat} {a : Int} (hp : Mr.Pr m) (h : a % (m : Int) ≠ 0) : 0 < rto m 1 a ∧ rto m 1 a < m ∧ (a % (m : Int)) * rto m 1 a % (m : Int) = 1 := by
  have hm : 2 ≤ m := hp.1
  have e1 : (1 : Int) % (m : Int) = 1 := Int.emod_eq_of_lt (by omega) (by omega)
  have e : rto m 1 a = (a % (m : Int)) ^ (m - 2) % (m : Int) := by
    unfold rto
    rw [if_neg h, e1, Int.one_mul, Int.emod_emod]
  have hf := Cp.fermat hp.pri (a := a % (m : Int)) (fun hd => h (by have := Int.emod_eq_zero_of_dvd hd; rwa [Int.emod_emod] at this))
  rw [← e] at hf
  have hb := rto_bd hm 1 a
  refine ⟨?_, hb.2, hf⟩
  rcases Int.lt_or_eq_of_le hb.1 with h1 | h1
  · exact h1
  · rw [← h1] at hf
    simp at hf
end Go.Proofs.YtkbgeggflhfleaaGreatDoor.Rs
namespace Go.Proofs.YtkbgeggflhfleaaGreatDoor
open Go.RowKit
theorem TzB {w w1 : World} (h : Rs.TzT w) (hb : Below w.heap.size w w1) : Rs.TzT w1 := Rs.tz_of ((Rs.tz_to h).keep fun g hg => hb.block g ((Rs.tz_to h).lt hg))
end Go.Proofs.YtkbgeggflhfleaaGreatDoor
