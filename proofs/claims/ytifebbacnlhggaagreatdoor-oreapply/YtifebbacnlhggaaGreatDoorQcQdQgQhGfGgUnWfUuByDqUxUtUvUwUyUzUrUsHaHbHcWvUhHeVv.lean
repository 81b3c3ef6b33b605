/-
  limbs.divideRows.
-/
import Derived.Test.YtifebbacnlhggaaGreatDoorCdDeGaGbKpGcGdGeQaQb
import Derived.Test.YtifebbacnlhggaaGreatDoorWbWcWdWe
import Derived.Lib.EndianBits
import Derived.Test.YtifebbacnlhggaaGreatDoorRaWmBeRdLnWrIb
import Derived.Test.YtifebbacnlhggaaGreatDoorWhPnWkWlBxBbCvNjUbUcUdOw
import Derived.Test.YtifebbacnlhggaaGreatDoorFyUjBsLeUk
import Derived.Test.YtifebbacnlhggaaGreatDoorNiUa
import Derived.Test.YtifebbacnlhggaaGreatDoorUlDdReRxRfRhCqRrRw
import Derived.Deep.DeepFit
import Derived.Test.YtifebbacnlhggaaGreatDoorWgUe
import Derived.Shelf.SlicesE.Clone
import Derived.Ground.SlgnProg
import Derived.Test.YtifebbacnlhggaaGreatDoorDcUmUoDmDvPmHuVsVt
import Derived.Deep.CutRange
import Derived.Deep.RegionHeld3
import Derived.Test.YtifebbacnlhggaaGreatDoorVbDaCxRbCyViVuWxUpUqRm
import Derived.StillTailTactics
import Derived.Test.YtifebbacnlhggaaGreatDoorUfUgHdNbFvOi
import Derived.Test.YtifebbacnlhggaaGreatDoorUiWiWj
import Derived.Test.YtifebbacnlhggaaGreatDoorRpDkDlDbRiRjRg
namespace Go.Proofs.YtifebbacnlhggaaGreatDoor
open Go.RowKit
set_option linter.unusedVariables false
set_option linter.unusedSimpArgs false

/-- Nothing that was there has changed but blocks a and b. -/
structure Gr2 (w w' : World) (a b : Nat) : Prop where
  os : w'.os = w.os
  tape : w'.tape = w.tape
  output : w'.output = w.output
  size : w.heap.size ≤ w'.heap.size
  block : ∀ k, k < w.heap.size → k ≠ a → k ≠ b → w'.heap[k]? = w.heap[k]?
theorem Gr2.refl (w : World) (a b : Nat) : Gr2 w w a b := ⟨rfl, rfl, rfl, Nat.le_refl _, fun _ _ _ _ => rfl⟩
theorem Gr2.trans {a b : Nat} {x y z : World} (h : Gr2 x y a b) (k : Gr2 y z a b) : Gr2 x z a b :=
  ⟨k.os.trans h.os, k.tape.trans h.tape, k.output.trans h.output, Nat.le_trans h.size k.size, fun i hi h1 h2 => (k.block i (Nat.lt_of_lt_of_le hi h.size) h1 h2).trans (h.block i hi h1 h2)⟩
theorem Gr2.rd {a b : Nat} {x y : World} {p : Option Addr} {k : IntKind} {xs : List Int} (h : Gr2 x y a b) (hr : Rd x p k xs) (h1 : Off a p) (h2 : Off b p) : Rd y p k xs :=
  hr.same fun q hq hlt => h.block q.block hlt (h1 q hq) (h2 q hq)
theorem Gr2.below {B a b : Nat} {x y : World} (h : Gr2 x y a b) (ha : B ≤ a) (hb : B ≤ b) (hB : B ≤ x.heap.size) : Below B x y :=
  ⟨h.os, h.tape, h.output, h.size, fun k hk => h.block k (by omega) (by omega) (by omega)⟩

theorem val_mid (Z X : List Int) (o n : Nat) (hX : X.length = n) (h : o + n ≤ Z.length) : val (mid Z o X) = val Z + pw o * (val X - val ((Z.drop o).take n)) := by
  have e : val Z = val (mid Z o ((Z.drop o).take n)) := by rw [mid_self Z o n h]
  rw [e]
  unfold mid
  rw [hX, part_length Z o n h, List.append_assoc, List.append_assoc, val_append, val_append, val_append, val_append, hX, part_length Z o n h, List.length_take, Nat.min_eq_left (by omega)]
  simp only [Int.mul_add, Int.mul_sub]
  omega
theorem val_take_all {xs : List Int} {n : Nat} (h : U32 xs) (hn : n ≤ xs.length) (hv : val xs < pw n) : val (xs.take n) = val xs ∧ val (xs.drop n) = 0 := by
  have e := val_drop_take xs n hn
  have h1 := val_nonneg (u32_take h n)
  have h2 := val_nonneg (u32_drop h n)
  have hp := pw_pos n
  have h3 : val (xs.drop n) = 0 := by
    rcases Int.lt_or_le 0 (val (xs.drop n)) with hc | hc
    · exfalso
      have : pw n * 1 ≤ pw n * val (xs.drop n) := Int.mul_le_mul_of_nonneg_left (by omega) (by omega)
      omega
    · omega
  rw [h3, Int.mul_zero, Int.add_zero] at e
  exact ⟨e.symm, h3⟩
theorem drop_val (xs : List Int) (i : Nat) (h : i < xs.length) : val (xs.drop i) = gx xs i + 4294967296 * val (xs.drop (i + 1)) := by
  rw [drop_cons xs i h]; rfl
/-- What is known between two rounds. -/
structure DR (U vs Q R : List Int) (k n t : Nat) : Prop where
  ql : Q.length = k
  qu : U32 Q
  rl : R.length = k + n
  ru : U32 R
  eq : val U = pw t * (val (Q.drop t) * val vs) + val R
  hi : val (R.drop t) < val vs
/-- The row that is looked at. -/
theorem DR.row {U vs Q R : List Int} {k n i : Nat} (h : DR U vs Q R k n (i + 1)) (hi : i < k) (hv : vs.length = n) (hV : U32 vs) :
    val ((R.drop i).take (n + 1)) = val (R.drop i) ∧ val (R.drop (i + (n + 1))) = 0 ∧ val ((R.drop i).take (n + 1)) < 4294967296 * val vs := by
  have hl := h.rl
  have hlt : val vs < pw n := by have := val_lt hV; rwa [hv] at this
  have e := drop_val R i (by omega)
  have hg := h.ru i
  have hh := h.hi
  have hlt2 : val (R.drop i) < 4294967296 * val vs := by omega
  have hp := pw_succ n
  obtain ⟨a, b⟩ := val_take_all (n := n + 1) (u32_drop h.ru i) (by simp; omega) (by omega)
  rw [List.drop_drop] at b
  exact ⟨a, b, by omega⟩
/-- A round. -/
theorem DR.next {U vs Q R new : List Int} {k n i : Nat} {q : Int} (h : DR U vs Q R k n (i + 1)) (hi : i < k) (hv : vs.length = n) (hV : U32 vs) (hnl : new.length = n + 1) (hnu : U32 new) (hq : 0 ≤ q ∧ q < 4294967296)
    (he : val new = val ((R.drop i).take (n + 1)) - q * val vs) (hlt : val new < val vs) : DR U vs (Q.set i q) (mid R i new) k n i := by
  obtain ⟨r1, r2, r3⟩ := h.row hi hv hV
  have hl := h.rl
  have hql := h.ql
  refine ⟨by rw [List.length_set]; exact h.ql, u32_set h.qu _ hq, by rw [mid_length _ _ _ (by omega)]; exact h.rl, ?_, ?_, ?_⟩
  · unfold mid
    exact u32_append (u32_append (u32_take h.ru i) hnu) (u32_drop h.ru _)
  · rw [val_mid R new i (n + 1) hnl (by omega), he, h.eq, drop_val (Q.set i q) i (by rw [List.length_set]; omega), gx_set_eq Q i q (by omega), List.drop_set_of_lt (by omega), pw_succ]
    simp only [Int.mul_add, Int.mul_sub, Int.add_mul]
    have e1 : pw i * (q * val vs) = pw i * (q * val vs) := rfl
    have e2 : pw i * (4294967296 * val (Q.drop (i + 1)) * val vs) = 4294967296 * pw i * (val (Q.drop (i + 1)) * val vs) := by
      simp only [Int.mul_assoc, Int.mul_left_comm]
    rw [e2]
    omega
  · have e : (mid R i new).drop i = new ++ R.drop (i + (n + 1)) := by
      unfold mid
      rw [hnl, List.append_assoc, List.drop_append_of_le_length (by simp; omega), List.drop_of_length_le (by simp; omega), List.nil_append]
    rw [e, val_append, r2, Int.mul_zero, Int.add_zero]
    exact hlt

end Go.Proofs.YtifebbacnlhggaaGreatDoor
/-
  limbs.shiftUp, shiftDown.
-/
namespace Go.Proofs.YtifebbacnlhggaaGreatDoor
open Go.RowKit
set_option linter.unusedVariables false
set_option linter.unusedSimpArgs false

end Go.Proofs.YtifebbacnlhggaaGreatDoor
/-
  limbs.quotient by two limbs and more; math/bits.LeadingZeros32; limbs.divide by rows.
-/
namespace Go.Proofs.YtifebbacnlhggaaGreatDoor
open Go.RowKit
set_option linter.unusedVariables false
set_option linter.unusedSimpArgs false

end Go.Proofs.YtifebbacnlhggaaGreatDoor
/-
  limbs.Quo, out of a contract of quotient whose rest may have spare room.
-/
namespace Go.Proofs.YtifebbacnlhggaaGreatDoor
open Go.RowKit
set_option linter.unusedVariables false
set_option linter.unusedSimpArgs false

end Go.Proofs.YtifebbacnlhggaaGreatDoor
/-
  limbs.smallDivisor, divisor, Gcd.
-/
namespace Go.Proofs.YtifebbacnlhggaaGreatDoor
open Go.RowKit
set_option linter.unusedVariables false
set_option linter.unusedSimpArgs false

end Go.Proofs.YtifebbacnlhggaaGreatDoor
/-
  limbs.Gcd of numbers of fewer than 150 limbs.
-/
namespace Go.Proofs.YtifebbacnlhggaaGreatDoor
open Go.RowKit
set_option linter.unusedVariables false
set_option linter.unusedSimpArgs false

end Go.Proofs.YtifebbacnlhggaaGreatDoor
/-
  upoly.Content.
-/
namespace Go.Proofs.YtifebbacnlhggaaGreatDoor
open Go.RowKit
set_option linter.unusedVariables false
set_option linter.unusedSimpArgs false

theorem NV.fit {B : Nat} {w : World} {K M : Nat} {z : Int} {e : Ent} (h : NV B w K z e) (hz : (z.natAbs : Int) < pw M) : NV B w M z e := by
  obtain ⟨xs, h1, h2, h3⟩ := h
  exact ⟨xs, h1, h2, h1.le hz⟩
end Go.Proofs.YtifebbacnlhggaaGreatDoor
namespace Go.Proofs.YtifebbacnlhggaaGreatDoor
open Go.RowKit
set_option linter.unusedVariables false
set_option linter.unusedSimpArgs false

set_option maxHeartbeats 1000000 in
/-- limbs.Neg. -/
theorem Neg_any (s : Bool) (p : Option Addr) (n nc : Nat) (xs : List Int) (w : World) (hA : AI w p n nc xs) :
    Calls Tryz.prog 180 #[.agg #[.bool s, .slice p n nc]] w fun e w' => ∃ s' p' n' ys, e = .returned (.agg #[.bool s', .slice p' n' n']) ∧ NI w.heap.size w' s' p' n' ys (ival (!s) xs) ∧ n' ≤ n ∧ Below w.heap.size w w' := by
  have ht := tlen_le xs
  have hl := hA.len
  have hs := hA.sml
  go_enter Tryz.func180, Tryz.ntmps180
  go_wp2
  go_region_held3 (fun w' => w'.cell? ⟨w.heap.size, 0, none⟩ = some (.bool s) ∧ w'.cell? ⟨w.heap.size, 1, none⟩ = some (.slice p n nc)) (first | (simp [go_sem, *, World.cell?_alloc_past]; done) | exact keepc2 (by assumption) (by assumption))
    (first
      | (go_at_call 94; refine (trim_any p n nc xs _ hA.len hA.cap hA.bnd ?_).mono ?_; exact ((hA.rd.alloc _).alloc _).drew; rintro e w' ⟨rfl, rfl⟩)
      | (go_at_call 168; refine (clone_any p (tlen xs) nc (tr xs) _ (length_tr xs) (by omega) ?_).mono ?_; exact ((hA.rd.tr.alloc _).alloc _).drew; rintro e w' ⟨rfl, rfl⟩)
      | (go_at_call 99; refine (number_any (!s) (some ⟨w.heap.size + 1 + 1, 0, none⟩) (tlen xs) (tlen xs) (tr xs) _ (length_tr xs) (Nat.le_refl _) (by unfold maxLen; omega) ?_).mono ?_; exact (Row.new2 w _ _ _ _ _).drew.rd_all; rintro e w1 ⟨rfl, hb⟩; obtain ⟨c0, c1, f0, f1⟩ := resbox (r := w.heap.size + 1) (u := .bool false) (v := .slice none 0 0) hb (by simp [go_sem, World.cell?_alloc_past]) (by simp [go_sem, World.cell?_alloc_past]) (by simp [go_sem]) (by simp [go_sem])))
  go_wp2
  refine bodyPost_ret (v := .agg #[.bool (nsg (!s) (tr xs)), .slice (nad (some ⟨w.heap.size + 1 + 1, 0, none⟩) (tr xs)) (tlen (tr xs)) (tlen (tr xs))]) (by simp [results, Tryz.results180, go_sem, c0, c1]) rfl ⟨_, _, _, tr (tr xs), rfl, ?_, ?_, ?_⟩
  · rw [← ival_tr (!s) xs]
    exact ((((ni_number (B := w.heap.size + 1 + 1) (!s) (Row.new2 w _ _ _ _ _).drew.rd_all (u32_tr hA.u) (from_new (Nat.le_refl _)) ((Row.new2 w _ _ _ _ _).drew.fz 0)).below hb).set (by simp) _).set (by simp) _).mono (by omega)
  · rw [tlen_tr]; omega
  · exact ((((((Below.refl _ _).alloc (Nat.le_refl _) _).alloc (by simp) _).alloc (by simp; omega) _).drew.trans (hb.mono (by simp; omega))).setCell (by simp) _).setCell (by simp) _
end Go.Proofs.YtifebbacnlhggaaGreatDoor
/-
  upoly.Scale; parts.
-/
namespace Go.Proofs.YtifebbacnlhggaaGreatDoor
open Go.RowKit
set_option linter.unusedVariables false
set_option linter.unusedSimpArgs false

theorem EV.bd {w : World} {K : Nat} {z : Int} {e : Ent} (h : EV w K z e) : (z.natAbs : Int) < pw K := by
  obtain ⟨xs, h1, h2, h3⟩ := h
  have h4 := h1.lt e.s
  rw [h2] at h4
  have := pw_mono h3
  omega
end Go.Proofs.YtifebbacnlhggaaGreatDoor
/-
  ore.raise.
-/
namespace Go.Proofs.YtifebbacnlhggaaGreatDoor
open Go.RowKit
open Go.Shelf
set_option linter.unusedVariables false
set_option linter.unusedSimpArgs false

theorem pow_bd {z : Int} {L : Nat} (h : (z.natAbs : Int) < pw L) : ∀ j, ((z ^ j).natAbs : Int) ≤ pw (L * j)
  | 0 => by simp [pw]
  | j + 1 => by
    rw [Int.pow_succ, Int.natAbs_mul, Int.natCast_mul, Nat.mul_succ, pw_add]
    exact Int.mul_le_mul (pow_bd h j) (by omega) (by omega) (Int.le_of_lt (pw_pos _))
theorem pow_bd1 {z : Int} {L : Nat} (h : (z.natAbs : Int) < pw L) (j : Nat) : ((z ^ j).natAbs : Int) < pw (L * j + 1) := by
  have h1 := pow_bd h j
  have h2 : pw (L * j + 1) = 4294967296 * pw (L * j) := pw_succ _
  have h3 := pw_pos (L * j)
  omega
theorem len16 : ∀ n, n < 17 → n / 2 ^ Lib.bitLen n = 0 ∧ Lib.bitLen n ≤ 5 := by decide
set_option maxHeartbeats 4000000 in
set_option maxRecDepth 100000 in
/-- ore.raise. -/
theorem raise_any {w : World} {L n : Nat} {z : Int} {e : Ent} (h : EV w L z e) (hL : L ≤ 4) (hn : n ≤ 16) :
    Calls Tryz.prog 105 #[.agg #[.bool e.s, .slice e.p e.n e.c], .int .i64 n] w fun r w' => ∃ f : Ent, r = .returned (.agg #[.bool f.s, .slice f.p f.n f.c]) ∧ NV w.heap.size w' (L * n + 1) (z ^ n) f ∧ Below w.heap.size w w' := by
  have hW : Below w.heap.size w ((w.alloc (.cells #[.bool e.s, .slice e.p e.n e.c] 24)).alloc (.cells #[.bool false, .slice none 0 0] 24)) := ((Below.refl _ _).alloc (Nat.le_refl _) _).alloc (by simp) _
  have hA : Bx ((w.alloc (.cells #[.bool e.s, .slice e.p e.n e.c] 24)).alloc (.cells #[.bool false, .slice none 0 0] 24)) w.heap.size (.bool e.s) (.slice e.p e.n e.c) := Bx.alloc (Bx.new _ _ _ rfl) _
  have hR : Bx ((w.alloc (.cells #[.bool e.s, .slice e.p e.n e.c] 24)).alloc (.cells #[.bool false, .slice none 0 0] 24)) (w.heap.size + 1) (.bool false) (.slice none 0 0) := Bx.new _ _ _ (by simp)
  have hE := h.below hW
  clear h
  go_enter Tryz.func105, Tryz.ntmps105
  go_wp2_with fail
  generalize (w.alloc (.cells #[.bool e.s, .slice e.p e.n e.c] 24)).alloc (.cells #[.bool false, .slice none 0 0] 24) = W at *
  go_fit (Of_e 1 W (by decide) (by decide))
  rintro r w1 ⟨u, rfl, hN1, hb1⟩
  have hlen := Len_any (n : Int)
  have hO := Bx.new (w := w1) (.bool u.s) (.slice u.p u.n u.c) 24 rfl
  have hal := bel_al (o := .cells #[.bool u.s, .slice u.p u.n u.c] 24) (Below.refl w1.heap.size w1)
  have sW1 := hb1.size
  go_wp2_with fail
  go_fit (hlen _ (by omega) (by omega))
  rintro r w2 ⟨rfl, hw⟩
  subst w2
  clear hlen
  generalize w1.alloc (.cells #[.bool u.s, .slice u.p u.n u.c] 24) = W1 at *
  obtain ⟨hB0, hB5⟩ := len16 n (by omega)
  have hzb := hE.bd
  have HI : Hid (Below W.heap.size W W1 ∧ NV W.heap.size W1 1 1 u) := ⟨bnext' hb1 hal, (hN1.fit (by decide)).below hal⟩
  have HW : Hid (Below w.heap.size w W ∧ Bx W w.heap.size (.bool e.s) (.slice e.p e.n e.c) ∧ Bx W (w.heap.size + 1) (.bool false) (.slice none 0 0) ∧ EV W L z e ∧ W.heap.size ≤ w1.heap.size) := ⟨hW, hA, hR, hE, sW1⟩
  have HO : Hid (Bx W1 w1.heap.size (.bool u.s) (.slice u.p u.n u.c)) := hO
  clear hN1 hb1 hal hW hA hR hE sW1 hO
  generalize hb : Lib.bitLen n = b at *
  generalize w1.heap.size = g at *
  have w0 : wrap64 ((b : Int) - 1) = (b : Int) - 1 := by unfold wrap64; omega
  go_wp2_with fail
  go_loopw [6] (fun iv wr => ∃ k : Nat, k ≤ b ∧ iv = .int .i64 ((k : Int) - 1) ∧ Hid (Below W.heap.size W wr ∧ ∃ f, Bx wr g (.bool f.s) (.slice f.p f.n f.c) ∧ NV W.heap.size wr (L * (n / 2 ^ k) + 1) (z ^ (n / 2 ^ k)) f)) (fun iv _ => (intOf iv + 1).toNat)
  case atStart => exact ⟨b, Nat.le_refl _, by go_num, HI.out.1, u, HO.out, by rw [hB0, Int.pow_zero, Nat.mul_zero]; exact HI.out.2⟩
  case round =>
    obtain ⟨k, hk, rfl, G⟩ := hrel
    obtain ⟨gB, f, gX, gN⟩ := G.out
    obtain ⟨hW, hA, hR, hE, hg⟩ := HW.out
    have sR : w.heap.size + 1 < W.heap.size := block_lt_of_cell hR.c0
    rcases Nat.eq_zero_or_pos k with h0 | h0
    · subst h0
      rw [Nat.pow_zero, Nat.div_one] at gN
      obtain ⟨c0, c1, -, -⟩ := gX
      obtain ⟨r0, r1, f0, f1⟩ := hR.later gB
      have HF : Hid (NV W.heap.size wr (L * n + 1) (z ^ n) f ∧ Below w.heap.size w wr ∧ w.heap.size ≤ W.heap.size) := ⟨gN, bnext' hW gB, hW.size⟩
      clear gN gB hW hA hR hE G
      go_wp2
      refine bodyPost_ret (v := .agg #[.bool f.s, .slice f.p f.n f.c]) (by simp [results, Tryz.results105, go_sem, r0, r1]) rfl ⟨f, rfl, ?_, ?_⟩
      · exact (HF.out.1.set2 (g := w.heap.size + 1) (o := 0) sR _ _).mono HF.out.2.2
      · exact bset2 HF.out.2.1 (by omega) _ _
    · obtain ⟨t, rfl⟩ : ∃ t, k = t + 1 := ⟨k - 1, by omega⟩
      have hq : n / 2 ^ (t + 1) ≤ 16 := Nat.le_trans (Nat.div_le_self _ _) hn
      have hKK : L * (n / 2 ^ (t + 1)) + 1 ≤ 65 := by have := Nat.mul_le_mul hL hq; omega
      have hm1 := Mul_ev (gN.ev (by omega)) (gN.ev (by omega)) (by omega)
      have hbit := bit_of n t (by omega)
      have H2 : Hid (n / 2 ^ t = 2 * (n / 2 ^ (t + 1)) + n / 2 ^ t % 2) := bit_step n t
      obtain ⟨c0, c1, f0, f1⟩ := id gX
      have j1 : (0 : Int) ≤ (t : Int) + 1 - 1 := by omega
      have j2 : ¬ ((t : Int) + 1 - 1 < 0) := by omega
      have v2 : (t : Int) + 1 - 1 = (t : Int) := by omega
      have v3 : wrap64 ((t : Int) - 1) = (t : Int) - 1 := by unfold wrap64; omega
      have HG : Hid (Bx wr g (.bool f.s) (.slice f.p f.n f.c) ∧ Below W.heap.size W wr) := ⟨gX, gB⟩
      clear gN gX
      generalize hy : n / 2 ^ (t + 1) = y at *
      clear hy
      go_wp2_with fail
      go_fit hm1
      rintro r v1 ⟨u1, rfl, hN1, hb1⟩
      have gX1 := HG.out.1.later hb1
      have sg : g < v1.heap.size := block_lt_of_cell gX1.c0
      have sgw : g < wr.heap.size := block_lt_of_cell HG.out.1.c0
      obtain ⟨d0, d1, e0, e1⟩ := id gX1
      have hS : Hid (Bx ((v1.setCell ⟨g, 0, none⟩ (.bool u1.s)).setCell ⟨g, 1, none⟩ (.slice u1.p u1.n u1.c)) g (.bool u1.s) (.slice u1.p u1.n u1.c) ∧ Below W.heap.size W ((v1.setCell ⟨g, 0, none⟩ (.bool u1.s)).setCell ⟨g, 1, none⟩ (.slice u1.p u1.n u1.c)) ∧ NV W.heap.size ((v1.setCell ⟨g, 0, none⟩ (.bool u1.s)).setCell ⟨g, 1, none⟩ (.slice u1.p u1.n u1.c)) (L * (2 * y) + 1) (z ^ (2 * y)) u1) := by
        refine ⟨Bx_set gX1, bset2 (bnext' HG.out.2 hb1) hg _ _, ?_⟩
        have h3 := (hN1.set2 (g := g) (o := 0) sgw (.bool u1.s) (.slice u1.p u1.n u1.c)).mono HG.out.2.size
        have e3 : z ^ y * z ^ y = z ^ (2 * y) := by rw [← Int.pow_add, Nat.two_mul]
        rw [e3] at h3
        exact h3.fit (pow_bd1 hzb _)
      clear hN1 hb1 gX1 hm1 c0 c1 f0 f1
      rcases Nat.mod_two_eq_zero_or_one (n / 2 ^ t) with hb2 | hb2
      · rw [hb2] at hbit
        have hq2 : (bits BinOp.and IntKind.i64 ((n : Int) / 2 ^ t) 1 == 1) = false := by rw [hbit]; rfl
        have H3 : Hid (n / 2 ^ t = 2 * y) := by have := H2.out; show _ = _; omega
        clear hbit hb2 H2
        go_wp2_with fail
        exact ⟨⟨t, by omega, rfl, hS.out.2.1, u1, hS.out.1, by rw [H3.out]; exact hS.out.2.2⟩, by simp [intOf]⟩
      · rw [hb2] at hbit
        have hq2 : (bits BinOp.and IntKind.i64 ((n : Int) / 2 ^ t) 1 == 1) = true := by rw [hbit]; rfl
        have H3 : Hid (n / 2 ^ t = 2 * y + 1) := by have := H2.out; show _ = _; omega
        have hq3 : 2 * y + 1 ≤ 16 := by rw [← H3.out]; exact Nat.le_trans (Nat.div_le_self _ _) hn
        have hK3 : L * (2 * y) + 1 ≤ 65 := by have := Nat.mul_le_mul hL (show 2 * y ≤ 16 by omega); omega
        obtain ⟨sX, sB, sN⟩ := hS.out
        obtain ⟨x0, x1, x2, x3⟩ := id sX
        obtain ⟨a0, a1, -, -⟩ := hA.later sB
        have hm2 := Mul_ev (sN.ev (by omega)) (hE.below sB) (by omega)
        have HS : Hid (Bx ((v1.setCell ⟨g, 0, none⟩ (.bool u1.s)).setCell ⟨g, 1, none⟩ (.slice u1.p u1.n u1.c)) g (.bool u1.s) (.slice u1.p u1.n u1.c) ∧ Below W.heap.size W ((v1.setCell ⟨g, 0, none⟩ (.bool u1.s)).setCell ⟨g, 1, none⟩ (.slice u1.p u1.n u1.c))) := ⟨sX, sB⟩
        clear hbit hb2 H2 sN sX sB hS
        go_wp2_with fail
        generalize (v1.setCell ⟨g, 0, none⟩ (.bool u1.s)).setCell ⟨g, 1, none⟩ (.slice u1.p u1.n u1.c) = S1 at *
        go_fit hm2
        rintro r v2' ⟨u2, rfl, hN2, hb2⟩
        have gX2 := HS.out.1.later hb2
        have sg2 : g < S1.heap.size := block_lt_of_cell HS.out.1.c0
        obtain ⟨y0, y1, y2, y3⟩ := id gX2
        have hS : Hid (Bx ((v2'.setCell ⟨g, 0, none⟩ (.bool u2.s)).setCell ⟨g, 1, none⟩ (.slice u2.p u2.n u2.c)) g (.bool u2.s) (.slice u2.p u2.n u2.c) ∧ Below W.heap.size W ((v2'.setCell ⟨g, 0, none⟩ (.bool u2.s)).setCell ⟨g, 1, none⟩ (.slice u2.p u2.n u2.c)) ∧ NV W.heap.size ((v2'.setCell ⟨g, 0, none⟩ (.bool u2.s)).setCell ⟨g, 1, none⟩ (.slice u2.p u2.n u2.c)) (L * (2 * y + 1) + 1) (z ^ (2 * y + 1)) u2) := by
          refine ⟨Bx_set gX2, bset2 (bnext' HS.out.2 hb2) hg _ _, ?_⟩
          have h3 := (hN2.set2 (g := g) (o := 0) sg2 (.bool u2.s) (.slice u2.p u2.n u2.c)).mono HS.out.2.size
          rw [← Int.pow_succ] at h3
          exact h3.fit (pow_bd1 hzb _)
        clear hN2 hb2 gX2 hm2 x0 x1 x2 x3 a0 a1 HS
        go_wp2_with fail
        exact ⟨⟨t, by omega, rfl, hS.out.2.1, u2, hS.out.1, by rw [H3.out]; exact hS.out.2.2⟩, by simp [intOf]⟩
end Go.Proofs.YtifebbacnlhggaaGreatDoor
/-
  limbs.Sub of entries (out of Ut).
-/
namespace Go.Proofs.YtifebbacnlhggaaGreatDoor
open Go.RowKit
set_option linter.unusedVariables false
set_option linter.unusedSimpArgs false

theorem Sub_ev {w : World} {K L : Nat} {x y : Int} {e f : Ent} (h : EV w K x e) (k : EV w L y f) : Calls Tryz.prog 133 #[.agg #[.bool e.s, .slice e.p e.n e.c], .agg #[.bool f.s, .slice f.p f.n f.c]] w fun r w' => ∃ u : Ent, r = .returned (.agg #[.bool u.s, .slice u.p u.n u.c]) ∧ NV w.heap.size w' (K + L + 1) (x - y) u ∧ Below w.heap.size w w' := by
  obtain ⟨xs, h1, rfl, h3⟩ := h
  obtain ⟨ys, k1, rfl, k3⟩ := k
  refine (Sub_any e.s f.s e.p f.p e.n e.c f.n f.c xs ys w h1 k1).mono ?_
  rintro r w' ⟨s', p', n', zs, g1, g2, g3, g4⟩
  exact ⟨⟨s', p', n', n'⟩, g1, ⟨zs, g2, rfl, by show n' ≤ _; omega⟩, g4⟩
end Go.Proofs.YtifebbacnlhggaaGreatDoor
/-
  Lists of numbers with spare room behind; slices.Clone of a polynomial.
-/
namespace Go.Proofs.YtifebbacnlhggaaGreatDoor
open Go.RowKit
set_option linter.unusedVariables false
set_option linter.unusedSimpArgs false

/-- Block g begins with a list. -/
def RW (w : World) (g : Nat) (t : TypeId) (es : List Ent) : Prop := ∃ spare : List Value, w.heap[g]? = some (.cells ((es.flatMap fun e => [Value.bool e.s, .slice e.p e.n e.c]) ++ spare).toArray t (0, 0))
section
variable {w w' : World} {g : Nat} {t : TypeId} {es : List Ent}
theorem RW.lt (h : RW w g t es) : g < w.heap.size := by
  obtain ⟨s, h⟩ := h
  exact (Array.getElem?_eq_some_iff.1 h).1
theorem RW.cell (h : RW w g t es) (j : Nat) (hj : j < es.length) : w.cell? ⟨g, j * 2, none⟩ = some (.bool (ge es j).s) ∧ w.cell? ⟨g, j * 2 + 1, none⟩ = some (.slice (ge es j).p (ge es j).n (ge es j).c) := by
  obtain ⟨s, h⟩ := h
  obtain ⟨h1, h2⟩ := flat_get es j hj
  have hl := flat_length es
  rw [cell_of_row w g (j * 2) _ t (0, 0) h, cell_of_row w g (j * 2 + 1) _ t (0, 0) h]
  simp only [List.getElem?_toArray]
  rw [List.getElem?_append_left (by omega), List.getElem?_append_left (by omega)]
  exact ⟨h1, h2⟩
theorem RW.frozen (h : RW w g t es) (j : Nat) : w.frozen? ⟨g, j, none⟩ = false := by
  obtain ⟨s, h⟩ := h
  exact frozen_of_row w g j _ t h
theorem RW.set (h : RW w g t es) (j : Nat) (e : Ent) (hj : j < es.length) : RW ((w.setCell ⟨g, j * 2, none⟩ (.bool e.s)).setCell ⟨g, j * 2 + 1, none⟩ (.slice e.p e.n e.c)) g t (es.set j e) := by
  obtain ⟨s, h⟩ := h
  refine ⟨s, ?_⟩
  have hl := flat_length es
  have h1 := heap_setCell_same w g (j * 2) _ t (.bool e.s) h
  rw [heap_setCell_same _ g (j * 2 + 1) _ t (.slice e.p e.n e.c) h1]
  simp only [List.setIfInBounds_toArray]
  rw [List.set_append_left _ _ (by omega), List.set_append_left _ _ (by rw [List.length_set]; omega), flat_set es j e hj]
theorem RW.below {B : Nat} (h : RW w g t es) (hb : Below B w w') (hg : g < B) : RW w' g t es := by
  obtain ⟨s, h⟩ := h
  exact ⟨s, (hb.block g hg).trans h⟩
theorem Row2.rw (h : Row2 w g t es) : RW w g t es := ⟨[], by rw [List.append_nil]; exact h⟩
theorem RW.pl (h : RW w g t es) : PL w (some ⟨g, 0, none⟩) es := fun _ => ⟨g, 0, rfl, fun j hj => by
  simp only [Nat.zero_add]; exact h.cell j hj⟩
theorem RW.set_other (h : RW w g t es) (a : Addr) (v : Value) (hne : g ≠ a.block) : RW (w.setCell a v) g t es := by
  obtain ⟨s, h⟩ := h
  exact ⟨s, (heap_setCell_other w a g v hne).trans h⟩
end
shelf_lay_g SlLaysE0.n41 Slgn 41 at Tryz 162 as Tryz.clonePoly
theorem PL.cells {w : World} {b o : Nat} {es : List Ent} (h : ∀ j, j < es.length → w.cell? ⟨b, o + j * 2, none⟩ = some (.bool (ge es j).s) ∧ w.cell? ⟨b, o + j * 2 + 1, none⟩ = some (.slice (ge es j).p (ge es j).n (ge es j).c)) (j : Nat) (u : Value) (hj : (es.flatMap fun e => [Value.bool e.s, .slice e.p e.n e.c])[j]? = some u) : w.cell? ⟨b, o + j, none⟩ = some u := by
  have hl := flat_length es
  have hlt : j < es.length * 2 := by
    rw [← hl]
    exact (List.getElem?_eq_some_iff.1 hj).1
  obtain ⟨g0, g1⟩ := flat_get es (j / 2) (by omega)
  obtain ⟨c0, c1⟩ := h (j / 2) (by omega)
  rcases Nat.mod_two_eq_zero_or_one j with e | e
  · have hi : j / 2 * 2 = j := by omega
    rw [hi] at g0 c0
    rw [c0, ← g0, hj]
  · have hi : j / 2 * 2 + 1 = j := by omega
    rw [hi] at g1
    rw [Nat.add_assoc, hi] at c1
    rw [c1, ← g1, hj]
end Go.Proofs.YtifebbacnlhggaaGreatDoor
/-
  upoly.takeTimes.
-/
namespace Go.Proofs.YtifebbacnlhggaaGreatDoor
open Go.RowKit
set_option linter.unusedVariables false
set_option linter.unusedSimpArgs false

/-- The entries below T of a list that is written in block g; none lies in g or g2. -/
structure TR (wr : World) (g g2 T M : Nat) (us : List Ent) (F : Nat → Int) : Prop where
  row : RW wr g 24 us
  len : T ≤ us.length
  ev : ∀ t, t < T → EV wr M (F t) (ge us t) ∧ (0 < (ge us t).n → Off g (ge us t).p ∧ Off g2 (ge us t).p)
theorem TR.below {wr w' : World} {g g2 T M : Nat} {us : List Ent} {F : Nat → Int} (h : TR wr g g2 T M us F) (hb : Below wr.heap.size wr w') : TR w' g g2 T M us F :=
  ⟨h.row.below hb h.row.lt, h.len, fun t ht => ⟨(h.ev t ht).1.below hb, (h.ev t ht).2⟩⟩
theorem TR.set {wr : World} {g g2 T M : Nat} {us : List Ent} {F G : Nat → Int} (h : TR wr g g2 T M us F) (t : Nat) (e : Ent) (ht : t < T) (hv : EV wr M (G t) e) (ho : 0 < e.n → Off g e.p ∧ Off g2 e.p) (hG : ∀ s, s < T → s ≠ t → G s = F s) :
    TR ((wr.setCell ⟨g, t * 2, none⟩ (.bool e.s)).setCell ⟨g, t * 2 + 1, none⟩ (.slice e.p e.n e.c)) g g2 T M (us.set t e) G := by
  have hl := h.len
  refine ⟨h.row.set t e (by omega), by simpa using hl, fun s hs => ?_⟩
  by_cases he : s = t
  · subst he
    rw [ge_set_same _ _ _ (by omega)]
    exact ⟨hv.set2 fun h0 => (ho h0).1, ho⟩
  · rw [ge_set_other _ _ _ _ he, hG s hs he]
    exact ⟨(h.ev s hs).1.set2 fun h0 => ((h.ev s hs).2 h0).1, (h.ev s hs).2⟩
theorem EV.le {w : World} {K L : Nat} {z : Int} {e : Ent} (h : EV w K z e) (hk : K ≤ L) : EV w L z e := by
  obtain ⟨xs, h1, h2, h3⟩ := h
  exact ⟨xs, h1, h2, Nat.le_trans h3 hk⟩
end Go.Proofs.YtifebbacnlhggaaGreatDoor
/-
  limbs.Quo of entries; upoly.parts.
-/
namespace Go.Proofs.YtifebbacnlhggaaGreatDoor
open Go.RowKit
set_option linter.unusedVariables false
set_option linter.unusedSimpArgs false

theorem Neg_ev {w : World} {K : Nat} {x : Int} {e : Ent} (h : EV w K x e) : Calls Tryz.prog 180 #[.agg #[.bool e.s, .slice e.p e.n e.c]] w fun r w' => ∃ u : Ent, r = .returned (.agg #[.bool u.s, .slice u.p u.n u.c]) ∧ NV w.heap.size w' K (-x) u ∧ Below w.heap.size w w' := by
  obtain ⟨xs, h1, rfl, h3⟩ := h
  refine (Neg_any e.s e.p e.n e.c xs w h1).mono ?_
  rintro r w' ⟨s', p', n', zs, g1, g2, g3, g4⟩
  have e1 : ival (!e.s) xs = -ival e.s xs := by cases e.s <;> simp [ival]
  rw [e1] at g2
  exact ⟨⟨s', p', n', n'⟩, g1, ⟨zs, g2, rfl, by show n' ≤ _; omega⟩, g4⟩
end Go.Proofs.YtifebbacnlhggaaGreatDoor
/-
  upoly.factorBits.
-/
namespace Go.Proofs.YtifebbacnlhggaaGreatDoor
open Go.RowKit
set_option linter.unusedVariables false
set_option linter.unusedSimpArgs false

end Go.Proofs.YtifebbacnlhggaaGreatDoor
/-
  upoly.exactQuotient, where it goes.
-/
namespace Go.Proofs.YtifebbacnlhggaaGreatDoor
open Go.RowKit
set_option linter.unusedVariables false
set_option linter.unusedSimpArgs false

theorem pb_le {w : World} {K : Nat} {p : Option Addr} {n nc : Nat} {es : List Ent} {zs : List Int} (h : PA w K p n nc es zs) (hn : n ≤ 1000000) : pb zs ≤ 32 * K := by
  have := pb_le_of zs (32 * K) (fun j hj => zb_le (h.ev j (by rw [← h.zl]; exact hj))) zs.length (Nat.le_refl _)
  rwa [List.take_length] at this
theorem NV_st3 {B F : Nat} {w : World} {K : Nat} {z : Int} {e : Ent} {a : Addr} {v : Value} (hF : Go.Proofs.YtifebbacnlhggaaGreatDoor.From F e.p) (ha : a.block < F) (h : NV B w K z e) : NV B (w.setCell a v) K z e := by
  obtain ⟨xs, h1, h2⟩ := h
  exact ⟨xs, NI_st3 hF ha h1, h2⟩
theorem NV.ltb {B : Nat} {w : World} {K : Nat} {z : Int} {e : Ent} (h : NV B w K z e) : ∀ x, e.p = some x → x.block < w.heap.size := by
  obtain ⟨xs, h1, -⟩ := h
  exact h1.lt
theorem NV.frm {B : Nat} {w : World} {K : Nat} {z : Int} {e : Ent} (h : NV B w K z e) : Go.Proofs.YtifebbacnlhggaaGreatDoor.From B e.p := by
  obtain ⟨xs, h1, -⟩ := h
  exact h1.fr
theorem NV.grown {B : Nat} {w w' : World} {K g : Nat} {z : Int} {e : Ent} (h : NV B w K z e) (hg : w.grownBy w' (some g)) (hB : g < B) : NV B w' K z e := by
  obtain ⟨xs, h1, h2⟩ := h
  exact ⟨xs, ⟨h1.len, h1.rd.keptOff hg (off_from h1.fr hB), h1.u, h1.nrm, h1.sg, h1.pn, h1.v, h1.fr, h1.fz.kept hg (fun a ha e => by have := h1.fr a ha; have := Option.some.inj e; omega)⟩, h2⟩
theorem unNV {w v : World} {K : Nat} {z : Int} {e : Ent} (h : NV w.drew.heap.size v K z e) : NV w.heap.size v K z e := h
end Go.Proofs.YtifebbacnlhggaaGreatDoor
/-
  upoly.divides, Exact, where they go.
-/
namespace Go.Proofs.YtifebbacnlhggaaGreatDoor
open Go.RowKit
set_option linter.unusedVariables false
set_option linter.unusedSimpArgs false

theorem PN.pb {B : Nat} {w : World} {K : Nat} {p : Option Addr} {n : Nat} {es : List Ent} {zs : List Int} (h : PN B w K p n es zs) (hK : K ≤ 1000) : PB B w K p n es zs :=
  ⟨h.el, h.zl, h.nrm, h.pl, h.fr, fun j hj => (h.ev j hj).en hK⟩
end Go.Proofs.YtifebbacnlhggaaGreatDoor
/-
  upoly: (prime).rest.
-/
namespace Go.Proofs.YtifebbacnlhggaaGreatDoor
open Go.RowKit
set_option linter.unusedVariables false
set_option linter.unusedSimpArgs false

theorem gx_set_ne' (Z : List Int) (i j : Nat) (v : Int) (h : i ≠ j) : gx (Z.set i v) j = gx Z j := by
  unfold gx
  rw [List.getD_eq_getElem?_getD, List.getD_eq_getElem?_getD, List.getElem?_set_ne h]
/-- Residues. -/
def Res (m : Int) (xs : List Int) : Prop := ∀ j, 0 ≤ gx xs j ∧ gx xs j < m
theorem Res.set {m : Int} {xs : List Int} (h : Res m xs) (i : Nat) (v : Int) (h0 : 0 ≤ v) (h1 : v < m) : Res m (xs.set i v) := fun j => by
  by_cases e : i = j
  · subst e
    rcases Nat.lt_or_ge i xs.length with hl | hl
    · rw [gx_mem _ _ (by rw [List.length_set]; exact hl)]
      simp [h0, h1]
    · have := h i
      rw [gx_past xs xs.length (Nat.le_refl _) i hl] at this
      rw [gx_past (xs.set i v) xs.length (by simp) i hl]
      exact this
  · rw [gx_set_ne' _ _ _ _ e]
    exact h j
end Go.Proofs.YtifebbacnlhggaaGreatDoor
/-
  upoly: (prime).divisor.
-/
namespace Go.Proofs.YtifebbacnlhggaaGreatDoor
open Go.RowKit
set_option linter.unusedVariables false
set_option linter.unusedSimpArgs false

theorem Res.take {m : Int} {xs : List Int} (h : Res m xs) (n : Nat) : Res m (xs.take n) := fun j => by
  rcases Nat.lt_or_ge j n with hj | hj
  · rw [gx_take _ _ _ hj]; exact h j
  · have h0 := h xs.length
    rw [gx_past xs xs.length (Nat.le_refl _) _ (Nat.le_refl _)] at h0
    rw [gx_past (xs.take n) n (by simp; omega) j hj]
    exact h0
theorem Res.scaled {m c : Int} {xs : List Int} (hm : 2 ≤ m) : Res m (xs.map (· * c % m)) := fun j => by
  rw [gx_map0 (· * c % m) (by simp)]
  exact ⟨Int.emod_nonneg _ (by omega), Int.emod_lt_of_pos _ (by omega)⟩
end Go.Proofs.YtifebbacnlhggaaGreatDoor
/-
  upoly's residues at 1 + 4x + 4x^2 and 1 + 2x, modulo 2147483647.
-/
namespace Go.Proofs.YtifebbacnlhggaaGreatDoor
open Go.RowKit
set_option linter.unusedVariables false
set_option linter.unusedSimpArgs false

end Go.Proofs.YtifebbacnlhggaaGreatDoor
/-
  upoly.primitiveDivisor at 1 + 4x + 4x^2 and 1 + 2x.
-/
namespace Go.Proofs.YtifebbacnlhggaaGreatDoor
open Go.RowKit
set_option linter.unusedVariables false
set_option linter.unusedSimpArgs false

end Go.Proofs.YtifebbacnlhggaaGreatDoor
/-
  upoly.Gcd at 1 + 4x + 4x^2 and 1 + 2x.
-/
namespace Go.Proofs.YtifebbacnlhggaaGreatDoor
open Go.RowKit
set_option linter.unusedVariables false
set_option linter.unusedSimpArgs false

end Go.Proofs.YtifebbacnlhggaaGreatDoor
/-
  limbs.Cmp.
-/
namespace Go.Proofs.YtifebbacnlhggaaGreatDoor
open Go.RowKit
set_option linter.unusedVariables false
set_option linter.unusedSimpArgs false

end Go.Proofs.YtifebbacnlhggaaGreatDoor
/-
  upoly.Eq.
-/
namespace Go.Proofs.YtifebbacnlhggaaGreatDoor
open Go.RowKit
set_option linter.unusedVariables false
set_option linter.unusedSimpArgs false

end Go.Proofs.YtifebbacnlhggaaGreatDoor
/-
  ashlarlaw3.begun.
-/
namespace Go.Proofs.YtifebbacnlhggaaGreatDoor
open Go.RowKit Go.Shelf
set_option linter.unusedVariables false
set_option linter.unusedSimpArgs false
attribute [local go_sem] Oper.semAt_some

end Go.Proofs.YtifebbacnlhggaaGreatDoor
/-
  ashlarref3.At at an entry that is there, Lead of one that is not zero.
-/
namespace Go.Proofs.YtifebbacnlhggaaGreatDoor
open Go.RowKit
set_option linter.unusedVariables false
set_option linter.unusedSimpArgs false

end Go.Proofs.YtifebbacnlhggaaGreatDoor
