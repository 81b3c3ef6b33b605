/-
  (limbs.steps).walk.
-/
import Derived.Test.YtkbgeggflhfleaaGreatDoorGaGbKp
import Derived.Test.YtkbgeggflhfleaaGreatDoorUaWhPnWk
namespace Go.Proofs.YtkbgeggflhfleaaGreatDoor
open Go.RowKit
set_option linter.unusedVariables false
set_option linter.unusedSimpArgs false
set_option maxHeartbeats 8000000
theorem mod_same {x y z M p k : Int} (h1 : x + M * p = y) (h2 : z = y + M * k) (hx0 : 0 ≤ x) (hx1 : x < M) (hz0 : 0 ≤ z) (hz1 : z < M) : x = z := by
  have e : z = x + M * (p + k) := by rw [Int.mul_add]; omega
  have hM : 0 < M := by omega
  have h3 : z % M = x % M := by rw [e, Int.add_mul_emod_self_left]
  rw [Int.emod_eq_of_lt hz0 hz1, Int.emod_eq_of_lt hx0 hx1] at h3
  exact h3.symm
theorem sml_mul {c x : Int} (h1 : -1073741824 < c) (h2 : c < 1073741824) (hx0 : 0 ≤ x) (hx1 : x < 4294967296) : -4611686013132439553 ≤ c * x ∧ c * x ≤ 4611686013132439553 := by
  have a1 : c * x ≤ 1073741823 * x := Int.mul_le_mul_of_nonneg_right (by omega) hx0
  have a2 : -1073741823 * x ≤ c * x := Int.mul_le_mul_of_nonneg_right (by omega) hx0
  constructor <;> omega
theorem walk_step {A' A Bl : List Int} {k : Nat} {p aa ab T : Int} (hA : k < A'.length) (hA2 : k < A.length) (hB2 : k < Bl.length) (h : val (A'.take k) + pw k * p = aa * val (A.take k) + ab * val (Bl.take k)) (hT : T = p + (aa * gx A k + ab * gx Bl k)) :
    val ((A'.set k (T % 4294967296)).take (k + 1)) + pw (k + 1) * (T / 4294967296) = aa * val (A.take (k + 1)) + ab * val (Bl.take (k + 1)) := by
  rw [val_take_succ _ k (by rw [List.length_set]; exact hA), val_take_succ A k hA2, val_take_succ Bl k hB2, gx_set_eq A' k _ hA, List.take_set_of_le (Nat.le_refl _), pw_succ]
  have e1 := cut_step (pw k) T
  have e2 : pw k * T = pw k * p + (aa * (pw k * gx A k) + ab * (pw k * gx Bl k)) := by rw [hT]; grind
  rw [Int.mul_add aa, Int.mul_add ab]
  omega
theorem walk_end {A' A Bl : List Int} {na nb : Nat} {p aa ab R : Int} (hU : U32 A') (hUA : U32 A) (hl : nb ≤ na) (h : val (A'.take nb) + pw nb * p = aa * val (A.take nb) + ab * val (Bl.take nb)) (hR : R = aa * val (A.take na) + ab * val (Bl.take nb)) (h0 : 0 ≤ R) (h1 : R < pw nb) : val (A'.take nb) = R := by
  have e1 := val_cut (A.take na) nb
  rw [List.take_take, Nat.min_eq_left hl] at e1
  refine mod_same (M := pw nb) (p := p) (k := aa * val ((A.take na).drop nb)) h ?_ (val_nonneg (u32_take hU _)) ?_ h0 h1
  · rw [hR, e1, Int.mul_add, Int.mul_left_comm (pw nb)]; omega
  · have := val_lt (u32_take hU nb)
    have h2 : pw (A'.take nb).length ≤ pw nb := pw_mono (List.length_take_le _ _)
    omega
def WkPost (ga gb na nac nb nbc : Nat) (A Bl : List Int) (R1 R2 : Int) (w : World) (e : Ending) (w' : World) : Prop :=
  ∃ A' B', e = .returned (.tuple #[.slice (some ⟨ga, 0, none⟩) (tlen (A'.take nb)) nac, .slice (some ⟨gb, 0, none⟩) (tlen (B'.take nb)) nbc]) ∧ A'.length = A.length ∧ B'.length = Bl.length ∧ U32 A' ∧ U32 B' ∧ val (A'.take nb) = R1 ∧ val (B'.take nb) = R2 ∧ Row w' ga 134 .u32 A' ∧ Row w' gb 134 .u32 B' ∧ Kp ga gb w w'
theorem Kp.set1 {g h : Nat} {w w1 : World} (k : Kp g h w w1) (j : Nat) (v : Value) : Kp g h w (w1.setCell ⟨g, j, none⟩ v) :=
  ⟨fun i hi a b => (heap_setCell_other w1 ⟨g, j, none⟩ i v a).trans (k.block i hi a b), k.os, k.tape, k.output, by simp [World.setCell]; exact k.size⟩
theorem Kp.set2 {g h : Nat} {w w1 : World} (k : Kp g h w w1) (j : Nat) (v : Value) : Kp g h w (w1.setCell ⟨h, j, none⟩ v) :=
  ⟨fun i hi a b => (heap_setCell_other w1 ⟨h, j, none⟩ i v b).trans (k.block i hi a b), k.os, k.tape, k.output, by simp [World.setCell]; exact k.size⟩
theorem Kp.drew {g h : Nat} {w w1 : World} (k : Kp g h w w1) : Kp g h w w1.drew := ⟨k.block, k.os, k.tape, k.output, k.size⟩
theorem Kp.alloc {g h : Nat} {w w1 : World} (k : Kp g h w w1) (o : Obj) : Kp g h w (w1.alloc o) :=
  ⟨fun i hi a b => (Below.heap_alloc w1 o i (Nat.lt_of_lt_of_le hi k.size)).trans (k.block i hi a b), k.os, k.tape, k.output, by simp; have := k.size; omega⟩
set_option maxRecDepth 100000 in
theorem walk_any (ga gb na nac nb nbc : Nat) (A Bl : List Int) (aa ab ba bb R1 R2 : Int) (w : World) (hA : Row w ga 134 .u32 A) (hB : Row w gb 134 .u32 Bl) (hg : ga ≠ gb) (hna : na ≤ A.length) (hnb : nb ≤ Bl.length) (hnn : nb ≤ na) (hnac : na ≤ nac) (hnac' : nac ≤ 1000000000) (hnbc : nb ≤ nbc) (hnbc' : nbc ≤ 1000000000) (hUA : U32 A) (hUB : U32 Bl)
    (a0 : -1073741824 < aa) (a1 : aa < 1073741824) (b0 : -1073741824 < ab) (b1 : ab < 1073741824) (c0 : -1073741824 < ba) (c1 : ba < 1073741824) (d0 : -1073741824 < bb) (d1 : bb < 1073741824)
    (e1 : R1 = aa * val (A.take na) + ab * val (Bl.take nb)) (e2 : R2 = ba * val (A.take na) + bb * val (Bl.take nb)) (r10 : 0 ≤ R1) (r11 : R1 < pw nb) (r20 : 0 ≤ R2) (r21 : R2 < pw nb) :
    Calls Tryz.prog 206 #[.agg #[.int .i64 aa, .int .i64 ab, .int .i64 ba, .int .i64 bb], .slice (some ⟨ga, 0, none⟩) na nac, .slice (some ⟨gb, 0, none⟩) nb nbc] w (WkPost ga gb na nac nb nbc A Bl R1 R2 w) := by
  have HE : Hid (R1 = aa * val (A.take na) + ab * val (Bl.take nb) ∧ R2 = ba * val (A.take na) + bb * val (Bl.take nb) ∧ 0 ≤ R1 ∧ R1 < pw nb ∧ 0 ≤ R2 ∧ R2 < pw nb) := ⟨e1, e2, r10, r11, r20, r21⟩
  clear e1 e2 r10 r11 r20 r21
  have HR : Hid (Row w ga 134 .u32 A ∧ Row w gb 134 .u32 Bl) := ⟨hA, hB⟩
  have hgl := hA.lt
  have hbl := hB.lt
  have hgn := hA.alloc (.cells #[.int .i64 aa, .int .i64 ab, .int .i64 ba, .int .i64 bb] 242)
  have hbn := hB.alloc (.cells #[.int .i64 aa, .int .i64 ab, .int .i64 ba, .int .i64 bb] 242)
  go_enter Tryz.func206, Tryz.ntmps206
  go_wp2
  have hk0 : Kp ga gb w (w.alloc (.cells #[.int .i64 aa, .int .i64 ab, .int .i64 ba, .int .i64 bb] 242)) := (Kp.refl _ _ _).alloc _
  have hcc : ∀ wr : World, Kp ga gb (w.alloc (.cells #[.int .i64 aa, .int .i64 ab, .int .i64 ba, .int .i64 bb] 242)) wr → wr.heap[w.heap.size]? = some (.cells #[.int .i64 aa, .int .i64 ab, .int .i64 ba, .int .i64 bb] 242 (0, 0)) := fun wr h => (h.block _ (by simp) (by omega) (by omega)).trans (heap_alloc_new w _)
  generalize (w.alloc (.cells #[.int .i64 aa, .int .i64 ab, .int .i64 ba, .int .i64 bb] 242)) = W at *
  have HC : Hid (∀ wr : World, Kp ga gb W wr → wr.heap[w.heap.size]? = some (.cells #[.int .i64 aa, .int .i64 ab, .int .i64 ba, .int .i64 bb] 242 (0, 0))) := hcc
  clear hcc
  go_loopw [8, 9, 15] (fun pv qv iv wr => ∃ (k : Nat) (p q : Int) (A' B' : List Int), k ≤ nb ∧ iv = .int .i64 k ∧ pv = .int .i64 p ∧ qv = .int .i64 q ∧ -2147483648 ≤ p ∧ p ≤ 2147483647 ∧ -2147483648 ≤ q ∧ q ≤ 2147483647 ∧ Hid (A'.length = A.length ∧ B'.length = Bl.length ∧ U32 A' ∧ U32 B' ∧ (∀ j, k ≤ j → gx A' j = gx A j) ∧ (∀ j, k ≤ j → gx B' j = gx Bl j) ∧ val (A'.take k) + pw k * p = aa * val (A.take k) + ab * val (Bl.take k) ∧ val (B'.take k) + pw k * q = ba * val (A.take k) + bb * val (Bl.take k) ∧ Row wr ga 134 .u32 A' ∧ Row wr gb 134 .u32 B' ∧ Kp ga gb W wr))
    (fun _ _ iv _ => (nb - intOf iv).toNat)
  case atStart => exact ⟨0, 0, 0, A, Bl, Nat.zero_le _, by go_num, rfl, rfl, by decide, by decide, by decide, by decide, rfl, rfl, hUA, hUB, fun _ _ => rfl, fun _ _ => rfl, by simp [val], by simp [val], hgn, hbn, Kp.refl _ _ _⟩
  case round =>
    obtain ⟨k, p, q, A', B', hk, rfl, rfl, rfl, hp0, hp1, hq0, hq1, H⟩ := hrel
    by_cases hkn : k < nb
    · obtain ⟨f1, f2, f3, f4, f5, f6, f7, f8, f9, f10, f11⟩ := H.out
      have x0 := (f3 k).1
      have x1 := (f3 k).2
      have y0 := (f4 k).1
      have y1 := (f4 k).2
      have g1 := f9.cell k (by omega)
      have g2 := f9.frozen k
      have g3 := f10.cell k (by omega)
      have g4 := f10.frozen k
      have hsr := HC.out wr f11
      have s0 := cell_of_row wr w.heap.size 0 _ _ (0, 0) hsr
      have s1 := cell_of_row wr w.heap.size 1 _ _ (0, 0) hsr
      have s2 := cell_of_row wr w.heap.size 2 _ _ (0, 0) hsr
      have s3 := cell_of_row wr w.heap.size 3 _ _ (0, 0) hsr
      simp only [List.getElem?_toArray, List.getElem?_cons_zero, List.getElem?_cons_succ] at s0 s1 s2 s3
      have m1 := sml_mul a0 a1 x0 x1
      have m2 := sml_mul b0 b1 y0 y1
      have m3 := sml_mul c0 c1 x0 x1
      have m4 := sml_mul d0 d1 y0 y1
      have hkI : (k : Int) < (nb : Int) := by omega
      have hkI2 : (k : Int) < (na : Int) := by omega
      clear f1 f2 f3 f4 f5 f6 f7 f8 f9 f10 f11 hsr
      go_wp2
      go_region
      all_goals go_wp2
      obtain ⟨f1, f2, f3, f4, f5, f6, f7, f8, f9, f10, f11⟩ := H.out
      refine ⟨⟨k + 1, _, _, A'.set k ((p + (aa * gx A' k + ab * gx B' k)) % 4294967296), B'.set k ((q + (ba * gx A' k + bb * gx B' k)) % 4294967296), by omega, by go_num, rfl, rfl, by omega, by omega, by omega, by omega, by rw [List.length_set]; exact f1, by rw [List.length_set]; exact f2, u32_set f3 _ (by omega), u32_set f4 _ (by omega), fun j hj => ?_, fun j hj => ?_, ?_, ?_, ?_, ?_, ?_⟩, by simp [intOf]; omega⟩
      · rw [gx_set_ne A' _ _ _ (by omega)]; exact f5 j (by omega)
      · rw [gx_set_ne B' _ _ _ (by omega)]; exact f6 j (by omega)
      · exact walk_step (by omega) (by omega) (by omega) f7 (by rw [f5 k (Nat.le_refl _), f6 k (Nat.le_refl _)])
      · exact walk_step (by omega) (by omega) (by omega) f8 (by rw [f5 k (Nat.le_refl _), f6 k (Nat.le_refl _)])
      · exact ((f9.set k _).set_other _ _ hg).drew
      · exact (((f10.set_other ⟨ga, k, none⟩ _ (fun e => hg e.symm))).set k _).drew
      · exact ((f11.set1 k _).set2 k _).drew
    · obtain rfl : k = nb := by omega
      obtain ⟨f1, f2, f3, f4, f5, f6, f7, f8, f9, f10, f11⟩ := H.out
      have t1 := f9.rd_take k
      have t2 := f10.rd_take k
      have l1 : (A'.take k).length = k := by simp; omega
      have l2 : (B'.take k).length = k := by simp; omega
      have hslI : (k : Int) ≤ (nac : Int) := by omega
      have HT : Hid (Rd wr (some ⟨ga, 0, none⟩) .u32 (A'.take k) ∧ Rd wr (some ⟨gb, 0, none⟩) .u32 (B'.take k) ∧ (A'.take k).length = k ∧ (B'.take k).length = k) := ⟨t1, t2, l1, l2⟩
      clear f1 f2 f3 f4 f5 f6 f7 f8 f9 f10 f11 t1 t2 l1 l2
      go_wp2_with fail
      refine (trim_any (some ⟨ga, 0, none⟩) k nac (A'.take k) _ HT.out.2.2.1 (by omega) (by unfold maxLen; omega) HT.out.1).mono ?_
      rintro e w1 ⟨rfl, rfl⟩
      go_wp2_with fail
      refine (trim_any (some ⟨gb, 0, none⟩) k nbc (B'.take k) _ HT.out.2.2.2 (by omega) (by unfold maxLen; omega) HT.out.2.1).mono ?_
      rintro e w1 ⟨rfl, rfl⟩
      go_wp2
      go_ret2
      obtain ⟨f1, f2, f3, f4, f5, f6, f7, f8, f9, f10, f11⟩ := H.out
      obtain ⟨e1, e2, r10, r11, r20, r21⟩ := HE.out
      exact ⟨A', B', rfl, f1, f2, f3, f4, walk_end f3 hUA hnn f7 e1 r10 r11, walk_end f4 hUA hnn f8 e2 r20 r21, f9, f10, ⟨fun i hi a b => (f11.block i (by have := hk0.size; omega) a b).trans (hk0.block i hi a b), f11.os.trans hk0.os, f11.tape.trans hk0.tape, f11.output.trans hk0.output, Nat.le_trans hk0.size f11.size⟩⟩
theorem limb_any (g : Nat) (p : Option Addr) (n nc : Nat) (xs : List Int) (j : Nat) (w : World) (hb : w.cell? ⟨g, 0, none⟩ = some (.slice p n nc)) (hl : xs.length = n) (hn : n ≤ 1000000) (hX : Rd w p .u32 xs) (hU : U32 xs) :
    Calls Tryz.prog 241 #[.int .i64 j, .pointer (some ⟨g, 0, none⟩)] w fun e w' => e = .returned (.int .u64 (gx xs j)) ∧ w = w' := by
  by_cases hj : j < n
  · obtain ⟨b, off, rfl, hcell⟩ := hX (by omega)
    have hc := hcell j (by omega)
    have hjI : (j : Int) < (n : Int) := by omega
    obtain ⟨u0, u1⟩ := hU j
    clear hcell
    go_enter Tryz.func241, Tryz.ntmps241
    go_wp2
    go_ret
    exact ⟨rfl, rfl⟩
  · have hz := gx_past xs n (by omega) j (by omega)
    rw [hz]
    go_enter Tryz.func241, Tryz.ntmps241
    go_wp2
    go_ret
    exact ⟨rfl, rfl⟩
theorem or_low64 (x y : Int) (x0 : 0 ≤ x) (x1 : x < 4294967296) (y0 : 0 ≤ y) (y1 : y < 4294967296) : bits .or .u64 x (y * 4294967296) = x + y * 4294967296 :=
  or_bits x y 32 (by decide) x0 (by omega) y0 (by omega)
set_option maxRecDepth 100000 in
theorem bitsFrom_go (p : Option Addr) (n nc : Nat) (xs : List Int) (i off : Nat) (V : Int) (w : World) (hl : xs.length = n) (hn : n ≤ 1000000) (hX : Rd w p .u32 xs) (hU : U32 xs) (hi : i ≤ 1000000) (hoff : off < 32)
    (hV : bits .or .u64 ((gx xs i + gx xs (i + 1) * 4294967296) / 2 ^ off) (IntKind.u64.wrap (gx xs (i + 2) * 2 ^ (64 - off))) = V) :
    Calls Tryz.prog 227 #[.slice p n nc, .int .i64 (32 * (i : Int) + (off : Int))] w fun e w' => e = .returned (.int .u64 V) ∧ Below w.heap.size w w' := by
  have q1 : (32 * (i : Int) + (off : Int)) / 32 = (i : Int) := by omega
  have q2 : (32 * (i : Int) + (off : Int)) % 32 = (off : Int) := by omega
  have q3 : (off : Int) % 32 = (off : Int) := by omega
  have hoffI : (0 : Int) ≤ (off : Int) := by omega
  have hoffJ : (off : Int) ≤ 31 := by omega
  go_enter Tryz.func227, Tryz.ntmps227
  go_wp2
  have hc0 : (w.alloc (.cells #[.slice p n nc] 28)).cell? ⟨w.heap.size, 0, none⟩ = some (.slice p n nc) := by simp [go_sem]
  have hX' := hX.alloc (.cells #[.slice p n nc] 28)
  have hbw : Below w.heap.size w (w.alloc (.cells #[.slice p n nc] 28)) := (Below.refl _ _).alloc (Nat.le_refl _) _
  generalize (w.alloc (.cells #[.slice p n nc] 28)) = W at *
  have lq : ∀ (j x : Nat), Calls Tryz.prog 241 #[.int .i64 j, .pointer (some ⟨w.heap.size, 0, none⟩)] (W.drewN x) fun e w'' => e = .returned (.int .u64 (gx xs j)) ∧ ∃ m, w'' = W.drewN m := fun j x =>
    (limb_any w.heap.size p n nc xs j (W.drewN x) hc0 hl hn hX' hU).mono fun e w'' ⟨h1, h2⟩ => ⟨h1, x, h2.symm⟩
  have l0 := lq i
  have l1 := lq (i + 1)
  have l2 := lq (i + 2)
  rw [show ((i + 1 : Nat) : Int) = (i : Int) + 1 by omega] at l1
  rw [show ((i + 2 : Nat) : Int) = (i : Int) + 2 by omega] at l2
  clear lq
  obtain ⟨u0, u1⟩ := hU i
  obtain ⟨v0, v1⟩ := hU (i + 1)
  obtain ⟨z0, z1⟩ := hU (i + 2)
  have ho := or_low64 (gx xs i) (gx xs (i + 1)) u0 u1 v0 v1
  generalize gx xs i = g0 at *
  generalize gx xs (i + 1) = g1 at *
  generalize gx xs (i + 2) = g2 at *
  clear hX hX' hU hl hc0
  go_quiet (first | with_reducible exact l0 _ | with_reducible exact l1 _ | with_reducible exact l2 _)
  clear hV ho
  go_wp2
  go_ret
  exact ⟨rfl, below_drewN hbw _⟩
theorem bitsFrom_any (p : Option Addr) (n nc : Nat) (xs : List Int) (i off : Nat) (w : World) (hl : xs.length = n) (hn : n ≤ 1000000) (hX : Rd w p .u32 xs) (hU : U32 xs) (hi : i ≤ 1000000) (hoff : off < 32) (hv : val xs < 2 ^ (32 * i + off) * 1152921504606846976) :
    Calls Tryz.prog 227 #[.slice p n nc, .int .i64 (32 * (i : Int) + (off : Int))] w fun e w' => e = .returned (.int .u64 (val xs / 2 ^ (32 * i + off))) ∧ Below w.heap.size w w' := by
  refine bitsFrom_go p n nc xs i off _ w hl hn hX hU hi hoff ?_
  obtain ⟨h1, h2, h3, h4⟩ := bits_from hU i off hoff hv
  have hz := (hU (i + 2)).1
  have hG : (0 : Int) < 2 ^ (64 - off) := Int.pow_pos (by decide)
  have h5 := Int.mul_nonneg hz (Int.le_of_lt hG)
  rw [IntKind.wrap_u64, Int.emod_eq_of_lt h5 (by omega), Int.mul_comm (gx xs (i + 1)), or_bits _ _ _ (by omega) h3 h4 hz (by omega), h1]
end Go.Proofs.YtkbgeggflhfleaaGreatDoor
