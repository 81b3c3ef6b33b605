/-
  Reference numbers with their values and a bound of their size.
-/
import Derived.Test.YtkbgeggflhfleaaGreatDoorCxCqRbCyRvRwCz
import Derived.Test.YtkbgeggflhfleaaGreatDoorYc
import Derived.Test.YtkbgeggflhfleaaGreatDoorZcZdZs
import Derived.Test.YtkbgeggflhfleaaGreatDoorCuZjReRxRfRh
import Derived.Test.YtkbgeggflhfleaaGreatDoorWlBxBbCvNjUbUcUdOwRaWmBe
import Derived.Test.YtkbgeggflhfleaaGreatDoorUaWhPnWk
namespace Go.Proofs.YtkbgeggflhfleaaGreatDoor
open Go.RowKit
set_option linter.unusedVariables false
set_option linter.unusedSimpArgs false
set_option maxHeartbeats 8000000
def RV (w : World) (N : Nat) (z : Int) (s : Bool) (p : Option Addr) (n : Nat) : Prop := ∃ ds, RN w s p n ds ∧ rval s ds = z ∧ n ≤ N
def RVP (N : Nat) (z : Int) (w : World) (e : Ending) (w' : World) : Prop :=
  ∃ s p n, e = .returned (.agg #[.bool s, .slice p n n]) ∧ RV w' N z s p n ∧ Go.Proofs.YtkbgeggflhfleaaGreatDoor.From w.heap.size p ∧ Below w.heap.size w w'
section
variable {w w' : World} {N M K : Nat} {z x y : Int} {s t : Bool} {p q : Option Addr} {n m : Nat}
theorem RV.below (h : RV w N z s p n) (hb : Below w.heap.size w w') : RV w' N z s p n := by
  obtain ⟨ds, h1, h2⟩ := h
  exact ⟨ds, h1.below hb, h2⟩
theorem RV.tight (h : RV w N z s p n) (hz : (z.natAbs : Int) < pw K) : RV w (2 * K) z s p n := by
  obtain ⟨ds, h1, rfl, h3⟩ := h
  refine ⟨ds, h1, rfl, ?_⟩
  have a := vd_nonneg h1.u
  have e : ((rval s ds).natAbs : Int) = vd ds := by unfold rval; split <;> omega
  rw [e, ← pd_two] at hz
  rcases Nat.lt_or_ge (2 * K) n with hk | hk
  · have b := vd_pos_of_top h1.u (by rw [h1.nrm]; omega)
    rw [h1.nrm] at b
    have c := pd_mono (show 2 * K ≤ n - 1 by omega)
    omega
  · exact hk
end
section
variable {w w' : World} {N M K : Nat} {z x y : Int} {s t : Bool} {p q : Option Addr} {n m : Nat}
end
structure MQ (w : World) (K : Nat) (s : Bool) (p : Option Addr) (n : Nat) (t : Bool) (q : Option Addr) (m : Nat) (r : Rat) : Prop where
  num : RV w (2 * K) r.num s p n
  den : RV w (2 * K) (r.den : Int) t q m
def MP (r : Rat) (K : Nat) (w : World) (e : Ending) (w' : World) : Prop :=
  ∃ s p n t q m, e = .returned (.agg #[.bool s, .slice p n n, .bool t, .slice q m m]) ∧ MQ w' K s p n t q m r ∧ Go.Proofs.YtkbgeggflhfleaaGreatDoor.From w.heap.size p ∧ Go.Proofs.YtkbgeggflhfleaaGreatDoor.From w.heap.size q ∧ Below w.heap.size w w'
section
variable {w w' : World} {N M K : Nat} {z x y : Int} {s t : Bool} {p q : Option Addr} {n m : Nat} {r : Rat}
theorem RV.set4 (h : RV w N z s p n) {g : Nat} (hg : 0 < n → Off g p) (u v x y : Value) : RV ((((w.setCell ⟨g, 0, none⟩ u).setCell ⟨g, 1, none⟩ v).setCell ⟨g, 2, none⟩ x).setCell ⟨g, 3, none⟩ y) N z s p n := by
  obtain ⟨ds, h1, h2⟩ := h
  exact ⟨ds, h1.set4 hg _ _ _ _, h2⟩
theorem Make_v (h : RV w N x s p n) (k : RV w M y t q m) (hN : N ≤ 1000) (hM : M ≤ 1000) (hs : Sz (Rat.divInt x y) K) :
    Calls Tryz.prog 24 #[.agg #[.bool s, .slice p n n], .agg #[.bool t, .slice q m m]] w (MP (Rat.divInt x y) K w) := by
  obtain ⟨ds, h1, rfl, h3⟩ := h
  obtain ⟨es, k1, rfl, k3⟩ := k
  refine (Make_any s t p q n m ds es w h1 k1 (by omega) (by omega)).mono ?_
  rintro e w' ⟨s', p', n', ds', t', q', m', es', g1, g2, g3, g4, g5⟩
  have a : RV w' n' (Rat.divInt (rval s ds) (rval t es)).num s' p' n' := ⟨ds', g2.num, g2.nv, Nat.le_refl _⟩
  have b : RV w' m' ((Rat.divInt (rval s ds) (rval t es)).den : Int) t' q' m' := ⟨es', g2.den, g2.dv, Nat.le_refl _⟩
  exact ⟨s', p', n', t', q', m', g1, ⟨a.tight hs.1, b.tight hs.2⟩, g3, g4, g5⟩
end
theorem cell_s4 {w : World} {b g o : Nat} {c u v x y : Value} (h : w.cell? ⟨b, o, none⟩ = some c) (hne : Hid (b ≠ g)) : ((((w.setCell ⟨g, 0, none⟩ u).setCell ⟨g, 1, none⟩ v).setCell ⟨g, 2, none⟩ x).setCell ⟨g, 3, none⟩ y).cell? ⟨b, o, none⟩ = some c := by
  have e : ((((w.setCell ⟨g, 0, none⟩ u).setCell ⟨g, 1, none⟩ v).setCell ⟨g, 2, none⟩ x).setCell ⟨g, 3, none⟩ y).heap[b]? = w.heap[b]? := by
    rw [heap_setCell_other _ _ b y hne.out, heap_setCell_other _ _ b x hne.out, heap_setCell_other _ _ b v hne.out, heap_setCell_other _ _ b u hne.out]
  exact (World.cell?_of_block (a := ⟨b, o, none⟩) e).trans h
theorem keep4s {w1 w2 : World} {a g : Nat} {a0 a1 a2 a3 u v x y : Value} (k : w1.cell? ⟨a, 0, none⟩ = some a0 ∧ w1.cell? ⟨a, 1, none⟩ = some a1 ∧ w1.cell? ⟨a, 2, none⟩ = some a2 ∧ w1.cell? ⟨a, 3, none⟩ = some a3) (hb : Below w1.heap.size w1 w2) (na : Hid (a ≠ g)) :
    ((((w2.setCell ⟨g, 0, none⟩ u).setCell ⟨g, 1, none⟩ v).setCell ⟨g, 2, none⟩ x).setCell ⟨g, 3, none⟩ y).cell? ⟨a, 0, none⟩ = some a0 ∧ ((((w2.setCell ⟨g, 0, none⟩ u).setCell ⟨g, 1, none⟩ v).setCell ⟨g, 2, none⟩ x).setCell ⟨g, 3, none⟩ y).cell? ⟨a, 1, none⟩ = some a1 ∧ ((((w2.setCell ⟨g, 0, none⟩ u).setCell ⟨g, 1, none⟩ v).setCell ⟨g, 2, none⟩ x).setCell ⟨g, 3, none⟩ y).cell? ⟨a, 2, none⟩ = some a2 ∧ ((((w2.setCell ⟨g, 0, none⟩ u).setCell ⟨g, 1, none⟩ v).setCell ⟨g, 2, none⟩ x).setCell ⟨g, 3, none⟩ y).cell? ⟨a, 3, none⟩ = some a3 := by
  obtain ⟨h0, h1, h2, h3⟩ := k
  exact ⟨cell_s4 (cell_later hb h0) na, cell_s4 (cell_later hb h1) na, cell_s4 (cell_later hb h2) na, cell_s4 (cell_later hb h3) na⟩
theorem end_mp {w W w1 : World} {g : Nat} {s t : Bool} {p q : Option Addr} {n m K : Nat} {r : Rat} {u v x y : Value} (hw : Below w.heap.size w W) (hg : w.heap.size ≤ g) (hg' : g < W.heap.size) (hb : Below W.heap.size W w1)
    (h : MQ w1 K s p n t q m r) (hp : Go.Proofs.YtkbgeggflhfleaaGreatDoor.From W.heap.size p) (hq : Go.Proofs.YtkbgeggflhfleaaGreatDoor.From W.heap.size q) :
    MP r K w (.returned (.agg #[.bool s, .slice p n n, .bool t, .slice q m m])) ((((w1.setCell ⟨g, 0, none⟩ u).setCell ⟨g, 1, none⟩ v).setCell ⟨g, 2, none⟩ x).setCell ⟨g, 3, none⟩ y) :=
  ⟨s, p, n, t, q, m, rfl, ⟨h.num.set4 (fun _ => off_from hp hg') _ _ _ _, h.den.set4 (fun _ => off_from hq hg') _ _ _ _⟩, fun a ha => Nat.le_trans hw.size (hp a ha), fun a ha => Nat.le_trans hw.size (hq a ha), bset4 (bnext' hw hb) hg _ _ _ _⟩
theorem rFrom_v {w : World} {K : Nat} {s : Bool} {p : Option Addr} {n nc : Nat} {xs : List Int} (h : AI w p n nc xs) (hn : n ≤ K) :
    Calls Tryz.prog 34 #[.agg #[.bool s, .slice p n nc]] w (RVP (2 * K) (ival s xs) w) := by
  refine (From_ansF s p n nc xs w h).mono ?_
  rintro e w' ⟨s', p', n', ds', g1, g2, g3, g4, g5, g6⟩
  exact ⟨s', p', n', g1, ⟨ds', g2, g3, by omega⟩, g5, g6⟩
set_option maxRecDepth 100000 in
theorem rFrom_q {w : World} {K : Nat} {s t : Bool} {p q : Option Addr} {n nc m mc : Nat} {r : Rat} (h : AQ w K s p n nc t q m mc r) (hK : 1 ≤ K) (hK' : K ≤ 400) :
    Calls Tryz.prog 15 #[.agg #[.bool s, .slice p n nc, .bool t, .slice q m mc]] w (MP r K w) := by
  have hs : Hid (Sz r K) := h.sz hK
  obtain ⟨xs, ys, h1, h2, h3, h4, hr⟩ := h
  have hval : Hid (Rat.divInt (ival s xs) (ival t ys) = r) := hr
  clear hr
  go_enter Tryz.func15, Tryz.ntmps15
  go_wp2_with fail
  have hA0 : Bq ((w.alloc (.cells #[.bool s, .slice p n nc, .bool t, .slice q m mc] 32)).alloc (.cells #[.bool false, .slice none 0 0, .bool false, .slice none 0 0] 40)) w.heap.size (.bool s) (.slice p n nc) (.bool t) (.slice q m mc) := (Bq.new _ _ _ _ _ rfl).alloc _
  have hR0 : Bq ((w.alloc (.cells #[.bool s, .slice p n nc, .bool t, .slice q m mc] 32)).alloc (.cells #[.bool false, .slice none 0 0, .bool false, .slice none 0 0] 40)) (w.heap.size + 1) (.bool false) (.slice none 0 0) (.bool false) (.slice none 0 0) := Bq.new _ _ _ _ _ (by simp)
  have hW : Below w.heap.size w ((w.alloc (.cells #[.bool s, .slice p n nc, .bool t, .slice q m mc] 32)).alloc (.cells #[.bool false, .slice none 0 0, .bool false, .slice none 0 0] 40)) := ((Below.refl _ _).alloc (Nat.le_refl _) _).alloc (by simp) _
  generalize (w.alloc (.cells #[.bool s, .slice p n nc, .bool t, .slice q m mc] 32)).alloc (.cells #[.bool false, .slice none 0 0, .bool false, .slice none 0 0] 40) = W at *
  have k1 := h1.below hW
  have k2 := h2.below hW
  have nA : Hid (w.heap.size ≠ w.heap.size + 1) := (by omega : w.heap.size ≠ w.heap.size + 1)
  obtain ⟨a0, a1, a2, a3, -, -, -, -⟩ := hA0
  go_region_held3 (fun w' => w'.cell? ⟨w.heap.size, 0, none⟩ = some (.bool s) ∧ w'.cell? ⟨w.heap.size, 1, none⟩ = some (.slice p n nc) ∧ w'.cell? ⟨w.heap.size, 2, none⟩ = some (.bool t) ∧ w'.cell? ⟨w.heap.size, 3, none⟩ = some (.slice q m mc)) (first | with_reducible exact ⟨a0, a1, a2, a3⟩ | with_reducible exact keepc4 ⟨a0, a1, a2, a3⟩ hV1 | with_reducible exact keepc4 ⟨a0, a1, a2, a3⟩ hV2 | with_reducible exact keepc4 ⟨a0, a1, a2, a3⟩ hV3 | with_reducible exact keep4s ⟨a0, a1, a2, a3⟩ hV3 nA | (simp [go_sem, *]; done))
    (first
      | (go_at_call_of 34 (Value.agg #[.bool s, .slice p n nc]); refine (rFrom_v (K := K) k1.drew h3).mono ?_; rintro e v1 ⟨s1, p1, n1, rfl, hr1, hF1, hv1⟩; have hV1 := undrew hv1)
      | (go_at_call_of 34 (Value.agg #[.bool t, .slice q m mc]); refine (rFrom_v (K := K) (k2.below hV1) h4).mono ?_; rintro e v2 ⟨s2, p2, n2, rfl, hr2, hF2, hv2⟩; have hV2 := bnext' hV1 hv2)
      | (go_at_call 24; refine (Make_v (K := K) (hr1.below hv2) hr2 (by omega) (by omega) (by rw [hval.out]; exact hs.out)).mono ?_; rintro e v3 ⟨s3, p3, n3, t3, q3, m3, rfl, hm, hF3, hF3', hv3⟩; have hV3 := bnext' hV2 hv3; rw [hval.out] at hm; obtain ⟨r0, r1, r2, r3, f0, f1, f2, f3⟩ := hR0.later hV3))
  clear a0 a1 a2 a3
  go_wp2
  refine bodyPost_ret (v := .agg #[.bool s3, .slice p3 n3 n3, .bool t3, .slice q3 m3 m3]) (by simp [results, Tryz.results15, go_sem, r0, r1, r2, r3]) rfl ?_
  have sV := hV2.size
  exact end_mp hW (by omega) hR0.lt hV3 hm (fun a ha => Nat.le_trans sV (hF3 a ha)) (fun a ha => Nat.le_trans sV (hF3' a ha))
theorem rMod_any (s : Bool) (p : Option Addr) (n nc : Nat) (xs : List Int) (m : Int) (w : World) (hl : xs.length = n) (hs : n ≤ 1000000000) (hX : Rd w p .i64 xs) (hU : U16 xs) (h1 : 1 ≤ m) (h2 : m ≤ 2147483647) :
    Calls Tryz.prog 32 #[.agg #[.bool s, .slice p n nc], .int .i64 m] w fun e w' => e = .returned (.int .i64 (rval s xs % m)) ∧ Below w.heap.size w w' := by
  have hmz : (m == 0) = false := beq_eq_false_iff_ne.2 (by omega)
  go_enter Tryz.func32, Tryz.ntmps32
  go_wp2
  go_loop [5, 6] (fun rv iv => ∃ (k : Nat) (r : Int), k ≤ n ∧ iv = .int .i64 ((k : Int) - 1) ∧ rv = .int .i64 r ∧ 0 ≤ r ∧ r < m ∧ Hid (r = vd (xs.drop k) % m)) (fun _ iv => (intOf iv + 1).toNat)
  case atStart => exact ⟨n, 0, Nat.le_refl _, by go_num, rfl, by decide, by omega, by show _ = _; rw [List.drop_of_length_le (by omega)]; simp [vd]⟩
  case round =>
    obtain ⟨k, r, hk, rfl, rfl, hr0, hr1, HR⟩ := hrel
    by_cases h0 : k = 0
    · subst h0
      have hv := HR.out
      rw [List.drop_zero] at hv
      have HV : Hid (r = vd xs % m) := hv
      clear hv HR
      cases s
      · go_wp2
        go_ret
        have hv := HV.out
        subst hv
        exact ⟨rfl, (Below.refl _ _).alloc (Nat.le_refl _) _⟩
      · by_cases hz : r = 0
        · have hz' : (r != 0) = false := by simp [hz]
          go_wp2
          go_ret
          have hv := HV.out
          have e : rval true xs % m = 0 := by
            simp only [rval, if_true]; rw [hz] at hv; exact Int.emod_eq_zero_of_dvd (Int.dvd_neg.2 (Int.dvd_of_emod_eq_zero hv.symm))
          rw [e]
          exact ⟨rfl, (Below.refl _ _).alloc (Nat.le_refl _) _⟩
        · have hz' : (r != 0) = true := by rw [bne_iff_ne]; exact hz
          go_wp2
          go_ret
          have hv := HV.out
          have e : rval true xs % m = m - r := by
            simp only [rval, if_true]
            exact neg_emod h1 hv hz
          rw [e]
          exact ⟨rfl, (Below.refl _ _).alloc (Nat.le_refl _) _⟩
    · obtain ⟨j, rfl⟩ : ∃ j, k = j + 1 := ⟨k - 1, by omega⟩
      have ej : ((j + 1 : Nat) : Int) - 1 = (j : Int) := by omega
      rw [ej]
      clear ej
      obtain ⟨b, off, hp, hcell⟩ := hX (by omega)
      have hc := hcell j (by omega)
      have hlt := block_lt_of_cell hc
      obtain ⟨b0, b1⟩ := hU j
      subst hp
      clear hcell
      go_wp2
      refine ⟨⟨j, _, by omega, rfl, rfl, Int.emod_nonneg _ (by omega), Int.emod_lt_of_pos _ (by omega), ?_⟩, by simp [intOf]⟩
      show _ = _
      rw [drop_cons xs j (by omega)]
      simp only [vd]
      have e := Int.emod_add_mul_ediv (vd (xs.drop (j + 1))) m
      rw [← HR.out] at e
      have e2 : gx xs j + 65536 * vd (xs.drop (j + 1)) = (r * 65536 + gx xs j) + m * (65536 * (vd (xs.drop (j + 1)) / m)) := by
        rw [Int.mul_left_comm]; omega
      rw [e2, Int.add_mul_emod_self_left]
end Go.Proofs.YtkbgeggflhfleaaGreatDoor
