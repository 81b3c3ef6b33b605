/-
  limbs.spellChunks: decimal digits, nine at a time.
-/
import Derived.Test.YtongkalfdgleaaaDoorWk
namespace Go.Proofs.YtongkalfdgleaaaDoor
open Go.RowKit
set_option linter.unusedVariables false
set_option linter.unusedSimpArgs false

/-- The digit of V at the place of 10^i, as a byte. -/
def dgt (V : Int) (i : Nat) : Int := 48 + V / 10 ^ i % 10
theorem dgt_bd (V : Int) (i : Nat) : 48 ≤ dgt V i ∧ dgt V i ≤ 57 := by unfold dgt; omega
theorem dgt_low (A : Int) (i : Nat) (h : i < 9) : A % 1000000000 / 10 ^ i % 10 = A / 10 ^ i % 10 := by
  have : i = 0 ∨ i = 1 ∨ i = 2 ∨ i = 3 ∨ i = 4 ∨ i = 5 ∨ i = 6 ∨ i = 7 ∨ i = 8 := by omega
  rcases this with rfl | rfl | rfl | rfl | rfl | rfl | rfl | rfl | rfl <;> simp only [Int.pow_succ, Int.pow_zero] <;> omega
theorem div_pow_add (V : Int) (a b : Nat) : V / 10 ^ a / 10 ^ b = V / 10 ^ (a + b) := by
  rw [Int.pow_add]; exact Int.ediv_ediv_of_nonneg (Int.pow_nonneg (by decide))

/-- All but the blocks g and h is as it was. -/
structure Kp (g h : Nat) (w w' : World) : Prop where
  block : ∀ k, k < w.heap.size → k ≠ g → k ≠ h → w'.heap[k]? = w.heap[k]?
  os : w'.os = w.os
  tape : w'.tape = w.tape
  output : w'.output = w.output
  size : w.heap.size ≤ w'.heap.size
theorem Kp.refl (g h : Nat) (w : World) : Kp g h w w := ⟨fun _ _ _ _ => rfl, rfl, rfl, rfl, Nat.le_refl _⟩
theorem Kp.grown {g h x : Nat} {w w1 w2 : World} (k : Kp g h w w1) (hg : w1.grownBy w2 (some x)) (hx : x = g ∨ x = h) : Kp g h w w2 :=
  ⟨fun i hi a b => (hg.block i (Nat.lt_of_lt_of_le hi k.size) (fun e => by cases e; rcases hx with rfl | rfl <;> contradiction)).trans (k.block i hi a b), hg.os.trans k.os, hg.tape.trans k.tape, hg.output.trans k.output, Nat.le_trans k.size hg.size⟩
theorem dgt_at (V A r dd : Int) (i K k p : Nat) (hA : A = V / 10 ^ (9 * (K - k))) (hr : r = A % 1000000000) (hd : dd = r / 10 ^ i) (hi : i < 9) (hk : k ≤ K) (hp : p + (i + 1) = 9 * k) : 48 + dd % 10 = dgt V (9 * K - 1 - p) := by
  rw [hd, hr, dgt_low A i hi, hA, div_pow_add, dgt, show 9 * (K - k) + i = 9 * K - 1 - p by omega]

set_option maxHeartbeats 2000000 in
/-- limbs.spellChunks. -/
theorem spellChunks_any (g h K cap n nc : Nat) (O Z : List Int) (w : World) (hg : Row w g 5 .u8 O) (hO : O.length = 9 * K) (hcap : 9 * K ≤ cap) (hcap' : cap ≤ 1099511627776)
    (hR : Row w h 55 .u32 Z) (hZ : n ≤ Z.length) (hU : U32 Z) (hn : n ≤ nc) (hnc : nc ≤ 1099511627776) (hgh : g ≠ h) :
    Calls Tryd.prog 66 #[.slice (some ⟨g, 0, none⟩) (9 * K) cap, .slice (some ⟨h, 0, none⟩) n nc] w fun e w' => ∃ D, e = .returned (.tuple #[]) ∧ D.length = 9 * K ∧ (∀ j, j < 9 * K → gx D j = dgt (val (Z.take n)) (9 * K - 1 - j)) ∧ Row w' g 5 .u8 D ∧ Kp g h w w' := by
  go_enter Tryd.func66, Tryd.ntmps66
  go_wp2
  go_loopw [1, 4] (fun xv ev wr => ∃ (k m : Nat) (D R : List Int), k ≤ K ∧ ev = .int .i64 ((9 * k : Nat) : Int) ∧ xv = .slice (some ⟨h, 0, none⟩) m nc ∧ m ≤ n ∧ Hid (D.length = 9 * K ∧ R.length = Z.length ∧ U32 R ∧ val (R.take m) = val (Z.take n) / 10 ^ (9 * (K - k)) ∧ (∀ j, 9 * k ≤ j → j < 9 * K → gx D j = dgt (val (Z.take n)) (9 * K - 1 - j)) ∧ Row wr g 5 .u8 D ∧ Row wr h 55 .u32 R ∧ Kp g h w wr))
    (fun _ ev _ => (intOf ev).toNat)
  case atStart => exact ⟨K, n, O, Z, Nat.le_refl _, by go_num, rfl, Nat.le_refl _, hO, rfl, hU, by simp, fun j h1 h2 => by omega, hg, hR, Kp.refl _ _ _⟩
  case round =>
    obtain ⟨k, m, D, R, hk, rfl, rfl, hm, H⟩ := hrel
    by_cases h0 : k = 0
    · subst h0
      go_wp2
      go_end0
      obtain ⟨a1, a2, a3, a4, a5, a6, a7, a8⟩ := H.out
      exact ⟨D, rfl, a1, fun j hj => a5 j (by omega) hj, a6, a8⟩
    · have hpos : 0 < ((9 * k : Nat) : Int) := by omega
      obtain ⟨a1, a2, a3, a4, a5, a6, a7, a8⟩ := H.out
      have HH : Hid (D.length = 9 * K ∧ R.length = Z.length ∧ val (R.take m) = val (Z.take n) / 10 ^ (9 * (K - k)) ∧ (∀ j, 9 * k ≤ j → j < 9 * K → gx D j = dgt (val (Z.take n)) (9 * K - 1 - j)) ∧ Kp g h w wr) := ⟨a1, a2, a4, a5, a8⟩
      clear H a1 a4 a5 a8
      go_wp2_with fail
      refine (divideByLimb_any h nc m R 1000000000 _ (by omega) (by omega) (by omega) a7 a3 (by decide) (by decide)).mono ?_
      rintro e w1 ⟨R1, r, rfl, r1, r2, r3, r4, r5, r6, r7⟩
      have a6' := a6.kept r7 (by simpa using hgh)
      go_wp2_with fail
      refine (trim_any (some ⟨h, 0, none⟩) m nc (R1.take m) _ (by simp; omega) (by omega) (by unfold maxLen; omega) (r6.rd_take m)).mono ?_
      rintro e w2 ⟨rfl, rfl⟩
      have HR : Hid (R1.length = R.length ∧ U32 R1 ∧ val (R1.take m) * 1000000000 + r = val (R.take m) ∧ Row w1 h 55 .u32 R1 ∧ wr.grownBy w1 (some h) ∧ Row w1 g 5 .u8 D) := ⟨r1, r2, r5, r6, r7, a6'⟩
      have tm := tlen_le (R1.take m)
      have tm' : (R1.take m).length ≤ m := List.length_take_le _ _
      clear r1 r2 r5 r6 r7 a6' a6 a7 a3 a2
      go_wp2
      go_loopw [5, 6] (fun dv iv wr' => ∃ (i : Nat) (dd : Int) (D' : List Int), i ≤ 9 ∧ iv = .int .i64 ((i : Int) + 1) ∧ dv = .int .u32 dd ∧ 0 ≤ dd ∧ dd < 1000000000 ∧ Hid (dd = r / 10 ^ i ∧ D'.length = 9 * K ∧ (∀ j, 9 * k - i ≤ j → j < 9 * K → gx D' j = dgt (val (Z.take n)) (9 * K - 1 - j)) ∧ Row wr' g 5 .u8 D' ∧ w1.grownBy wr' (some g)))
        (fun _ iv _ => (10 - intOf iv).toNat)
      case atStart => exact ⟨0, r, D, by omega, by go_num, rfl, r3, r4, by simp, HH.out.1, fun j h1 h2 => HH.out.2.2.2.1 j (by omega) h2, HR.out.2.2.2.2.2, grownBy_refl _ _⟩
      case round =>
        obtain ⟨i, dd, D', hi, rfl, rfl, hd0, hd1, HI⟩ := hrel
        by_cases hi9 : i < 9
        · obtain ⟨p, hp'⟩ : ∃ p : Nat, p + (i + 1) = 9 * k := ⟨9 * k - (i + 1), by omega⟩
          have hp : (9 * (k : Int) - ((i : Int) + 1)) = (p : Int) := by omega
          have hpK : p < 9 * K := by omega
          obtain ⟨b1, b2, b3, b4, b5⟩ := HI.out
          have hc := b4.cell p (by omega)
          have hf := b4.frozen p
          clear b1 b2 b3 b4 b5
          go_wp2
          obtain ⟨b1, b2, b3, b4, b5⟩ := HI.out
          refine ⟨⟨i + 1, dd / 10, D'.set p (48 + dd % 10), by omega, by go_num, rfl, by omega, by omega, ?_, by rw [List.length_set]; exact b2, fun j h1 h2 => ?_, b4.set p _, grownBy_setCell b5 _ _⟩, by simp [intOf]; omega⟩
          · rw [b1, Int.pow_succ, Int.ediv_ediv_of_nonneg (Int.pow_nonneg (by decide))]
          · by_cases hj : p = j
            · subst hj
              rw [gx_set_eq D' _ _ (by omega)]
              exact dgt_at (val (Z.take n)) (val (R.take m)) r dd i K k p HH.out.2.2.1 (by have := HR.out.2.2.1; omega) b1 hi9 hk hp'
            · rw [gx_set_ne D' _ _ _ hj]
              exact b3 j (by omega) h2
        · have : i = 9 := by omega
          subst this
          go_wp2
          obtain ⟨b1, b2, b3, b4, b5⟩ := HI.out
          obtain ⟨c1, c2, c3, c4, c5⟩ := HH.out
          obtain ⟨e1, e2, e3, e4, e5, e6⟩ := HR.out
          refine ⟨⟨k - 1, tlen (R1.take m), D', R1, by omega, by go_num, rfl, by omega, b2, by omega, e2, ?_, fun j h1 h2 => b3 j (by omega) h2, b4, e4.kept b5 (by intro e; cases e; exact hgh rfl), (c5.grown e5 (.inr rfl)).grown b5 (.inl rfl)⟩, by simp [intOf]; omega⟩
          have ht : R1.take (tlen (R1.take m)) = tr (R1.take m) := by
            rw [tr, List.take_take, Nat.min_eq_left (by omega)]
          rw [ht, val_tr, show 9 * (K - (k - 1)) = 9 * (K - k) + 9 by omega, ← div_pow_add, ← c3]
          show _ = val (R.take m) / 1000000000
          omega
end Go.Proofs.YtongkalfdgleaaaDoor
