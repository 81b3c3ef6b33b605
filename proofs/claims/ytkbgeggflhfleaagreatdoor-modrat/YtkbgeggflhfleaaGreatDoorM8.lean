/-
  Package residue: Times, Minus, Power, Inverse, Of, passes, IsPrime (written by tools/genm8.py out of Up, X2).
-/
import Derived.Test.YtkbgeggflhfleaaGreatDoorRdLnWrIbWgUeUfWxM0
import Derived.Test.YtkbgeggflhfleaaGreatDoorM2M3X4M4
import Derived.Shelf.Spec.TrailingZeros
namespace Go.Proofs.YtkbgeggflhfleaaGreatDoor.Rs
open Go.Proofs.YtkbgeggflhfleaaGreatDoor
set_option maxHeartbeats 8000000
open Go.RowKit
open Go.Shelf
set_option linter.unusedVariables false
set_option linter.unusedSimpArgs false
theorem pow_emod (x m : Int) : ∀ j : Nat, (x % m) ^ j % m = x ^ j % m
  | 0 => by simp
  | j + 1 => by rw [Int.pow_succ, Int.pow_succ, Int.mul_emod, pow_emod x m j, Int.emod_emod, ← Int.mul_emod]
theorem mul_bdp {a b m : Int} (a0 : 0 ≤ a) (b0 : 0 ≤ b) (a1 : a < m) (b1 : b < m) (hm : m ≤ 2147483647) : 0 ≤ a * b ∧ a * b ≤ 2147483647 * 2147483647 :=
  ⟨Int.mul_nonneg a0 b0, Int.mul_le_mul (by omega) (by omega) b0 (by decide)⟩
theorem times_any (m a b : Int) (w : World) (hm : 2 ≤ m) (hm2 : m ≤ 2147483647) (a0 : 0 ≤ a) (a1 : a < m) (b0 : 0 ≤ b) (b1 : b < m) :
    Calls Tryz.prog 63 #[.int .u64 m, .int .u64 a, .int .u64 b] w fun e w' => e = .returned (.int .u64 (a * b % m)) ∧ w = w' := by
  obtain ⟨p0, p1⟩ := mul_bdp a0 b0 a1 b1 hm2
  have hm0 : ¬ m = 0 := by omega
  have hm0' : (m == 0) = false := by rw [beq_eq_false_iff_ne]; exact hm0
  generalize hP : a * b = P at *
  have HP := (show Hid _ from hP)
  have e : P.tmod m = P % m := Int.tmod_eq_emod_of_nonneg p0
  have q0 := Int.emod_nonneg P hm0
  have q1 := Int.emod_lt_of_pos P (show 0 < m by omega)
  have v1 : IntKind.u64.wrap P = P := by rw [IntKind.wrap_u64]; omega
  have v2 : IntKind.u64.wrap (P % m) = P % m := by rw [IntKind.wrap_u64]; omega
  go_enter Tryz.func63, Tryz.ntmps63
  go_wp2
  go_ret
  exact ⟨rfl, rfl⟩
theorem power_any (m A : Int) (N : Nat) (w : World) (hm : 2 ≤ m) (hm2 : m ≤ 2147483647) (a0 : 0 ≤ A) (a1 : A < m) (hN : N < 4294967296) :
    Calls Tryz.prog 115 #[.int .u64 m, .int .u64 A, .int .u64 N] w fun e w' => e = .returned (.int .u64 (A ^ N % m)) ∧ w = w' := by
  go_enter Tryz.func115, Tryz.ntmps115
  go_wp2
  go_loop [1, 2, 7] (fun av nv zv => ∃ (z a : Int) (k : Nat), zv = .int .u64 z ∧ av = .int .u64 a ∧ nv = .int .u64 k ∧ 0 ≤ z ∧ z < m ∧ 0 ≤ a ∧ a < m ∧ k < 4294967296 ∧ Hid (z * a ^ k % m = A ^ N % m)) (fun _ nv _ => (intOf nv).toNat)
  case atStart => exact ⟨1, A, N, by go_num, rfl, rfl, by omega, by omega, a0, a1, hN, by show _ = _; rw [Int.one_mul]⟩
  case round =>
    obtain ⟨z, a, k, rfl, rfl, rfl, z0, z1, x0, x1, hk, H⟩ := hrel
    have hm0 : ¬ m = 0 := by omega
    rcases Nat.eq_zero_or_pos k with h0 | h0
    · subst h0
      have HE : Hid (A ^ N % m = z) := by
        show _ = _
        rw [← H.out, Int.pow_zero, Int.mul_one, Int.emod_eq_of_lt z0 z1]
      clear H
      go_wp2
      go_ret
      exact ⟨by rw [HE.out]; rfl, rfl⟩
    · have hk0 : (0 : Int) < (k : Int) := by omega
      have t1 : (k : Int).tmod 2 = ((k % 2 : Nat) : Int) := by rw [Int.tmod_eq_emod_of_nonneg (by omega)]; omega
      have t2 : (k : Int).tdiv 2 = ((k / 2 : Nat) : Int) := by rw [Int.tdiv_eq_ediv_of_nonneg (by omega)]; omega
      have v1 : IntKind.u64.wrap ((k % 2 : Nat) : Int) = ((k % 2 : Nat) : Int) := by rw [IntKind.wrap_u64]; omega
      have v2 : IntKind.u64.wrap ((k / 2 : Nat) : Int) = ((k / 2 : Nat) : Int) := by rw [IntKind.wrap_u64]; omega
      have HA : Hid (∀ u : Int, (u * (a * a % m) ^ (k / 2)) % m = (u * a ^ (2 * (k / 2))) % m) := fun u => by
        rw [Int.mul_emod, pow_emod, ← Int.mul_emod, Int.pow_mul, show a ^ 2 = a * a from by rw [Int.pow_succ, Int.pow_succ, Int.pow_zero, Int.one_mul]]
      have r0 := Int.emod_nonneg (a * a) hm0
      have r1 := Int.emod_lt_of_pos (a * a) (show 0 < m by omega)
      have s0 := Int.emod_nonneg (z * a) hm0
      have s1 := Int.emod_lt_of_pos (z * a) (show 0 < m by omega)
      rcases Nat.mod_two_eq_zero_or_one k with hp | hp
      · have c1 : ¬ ((k % 2 : Nat) : Int) = 1 := by omega
        have c2 : (((k % 2 : Nat) : Int) == 1) = false := by rw [beq_eq_false_iff_ne]; exact c1
        have HP : Hid (k = 2 * (k / 2)) := by show _ = _; omega
        go_wp2_with fail
        refine (times_any m a a _ hm hm2 x0 x1 x0 x1).mono ?_
        rintro e w1 ⟨rfl, rfl⟩
        go_wp2
        go_round
        case rel =>
          refine ⟨z, a * a % m, k / 2, rfl, rfl, by go_num, z0, z1, r0, r1, by omega, ?_⟩
          show _ = _
          rw [HA.out z, ← HP.out]
          exact H.out
        case measure => simp [intOf]; omega
      · have c1 : ((k % 2 : Nat) : Int) = 1 := by omega
        have HP : Hid (k = 2 * (k / 2) + 1) := by show _ = _; omega
        go_wp2_with fail
        refine (times_any m z a _ hm hm2 z0 z1 x0 x1).mono ?_
        rintro e w1 ⟨rfl, rfl⟩
        go_wp2_with fail
        refine (times_any m a a _ hm hm2 x0 x1 x0 x1).mono ?_
        rintro e w1 ⟨rfl, rfl⟩
        go_wp2
        go_round
        case rel =>
          refine ⟨z * a % m, a * a % m, k / 2, rfl, rfl, by go_num, s0, s1, r0, r1, by omega, ?_⟩
          show _ = _
          rw [HA.out, Int.mul_emod, Int.emod_emod, ← Int.mul_emod, Int.mul_assoc]
          rw [show a * a ^ (2 * (k / 2)) = a ^ k from by rw [show k = 2 * (k / 2) + 1 from HP.out, Int.pow_succ, Int.mul_comm]; congr 2; omega]
          exact H.out
        case measure => simp [intOf]; omega
theorem inverse_any (m : Nat) (A : Int) (w : World) (hm : 2 ≤ m) (hm2 : m ≤ 2147483647) (a0 : 0 ≤ A) (a1 : A < m) :
    Calls Tryz.prog 64 #[.int .u64 m, .int .u64 A] w fun e w' => e = .returned (.int .u64 (A ^ (m - 2) % m)) ∧ w = w' := by
  have e : (m : Int) - 2 = ((m - 2 : Nat) : Int) := by omega
  have v : IntKind.u64.wrap ((m - 2 : Nat) : Int) = ((m - 2 : Nat) : Int) := by rw [IntKind.wrap_u64]; omega
  go_enter Tryz.func64, Tryz.ntmps64
  go_wp2_with fail
  refine (power_any m A (m - 2) _ (by omega) (by omega) a0 a1 (by omega)).mono ?_
  rintro e w1 ⟨rfl, rfl⟩
  go_wp2
  go_ret
  exact ⟨rfl, rfl⟩
theorem of_ev {w : World} {K : Nat} {z : Int} {e : Ent} (h : EV w K z e) (m : Int) (hm : 2 ≤ m) (hm2 : m ≤ 2147483647) :
    Calls Tryz.prog 30 #[.int .u64 m, .agg #[.bool e.s, .slice e.p e.n e.c]] w fun r w' => r = .returned (.int .u64 (z % m)) ∧ Below w.heap.size w w' := by
  obtain ⟨xs, h1, h2, h3⟩ := h
  obtain ⟨es, ep, en, ec⟩ := e
  simp only at h1 h2 h3 ⊢
  have v1 : IntKind.i64.wrap m = m := by rw [IntKind.wrap_i64]; omega
  have q0 := Int.emod_nonneg z (show m ≠ 0 by omega)
  have q1 := Int.emod_lt_of_pos z (show 0 < m by omega)
  have v2 : IntKind.u64.wrap (z % m) = z % m := by rw [IntKind.wrap_u64]; omega
  have HV : Hid (ival es xs = z) := h2
  clear h2
  go_enter Tryz.func30, Tryz.ntmps30
  go_wp2_with fail
  have hW0 := bel_al (o := .cells #[.bool es, .slice ep en ec] 30) (Below.refl w.heap.size w)
  have hm := Mod_any es ep en ec xs m _ (h1.below hW0) (by omega) hm2
  rw [HV.out] at hm
  refine hm.mono ?_
  rintro e w1 ⟨rfl, hb1⟩
  clear hm
  go_wp2
  go_ret
  exact ⟨rfl, bnext' hW0 hb1⟩
noncomputable def renTz : Go.Shelf.Ren := ⟨fun | 29 => 114 | n => n, fun | 0 => 0 | 3 => 3 | 4 => 4 | 5 => 5 | 22 => 62 | 25 => 173 | 54 => 217 | n => n, fun | 1 => (Tryz.prog.globals.findIdx? (·.name == "math/bits.deBruijn64tab")).getD 0 | n => n⟩
theorem laysTz : Lays7.n29 Tryz.prog renTz :=
  { mixed := by kernel_rfl
    f29 := by kernel_rfl
    t0 := by kernel_rfl
    a0 := fun _ => by kernel_rfl
    z0 := fun _ => by kernel_rfl
    v0 := fun _ => by kernel_rfl
    i0 := by kernel_rfl
    t3 := by kernel_rfl
    a3 := fun _ => by kernel_rfl
    z3 := fun _ => by kernel_rfl
    v3 := fun _ => by kernel_rfl
    i3 := by kernel_rfl
    t4 := by kernel_rfl
    a4 := fun _ => by kernel_rfl
    z4 := fun _ => by kernel_rfl
    v4 := fun _ => by kernel_rfl
    i4 := by kernel_rfl
    t5 := by kernel_rfl
    a5 := fun _ => by kernel_rfl
    z5 := fun _ => by kernel_rfl
    v5 := fun _ => by kernel_rfl
    i5 := by kernel_rfl
    t22 := by kernel_rfl
    a22 := fun _ => by kernel_rfl
    z22 := fun _ => by kernel_rfl
    v22 := fun _ => by kernel_rfl
    i22 := by kernel_rfl
    t25 := by kernel_rfl
    a25 := fun _ => by kernel_rfl
    z25 := fun _ => by kernel_rfl
    v25 := fun _ => by kernel_rfl
    i25 := by kernel_rfl
    t54 := by kernel_rfl
    a54 := fun _ => by kernel_rfl
    z54 := fun _ => by kernel_rfl
    g1 := by kernel_rfl }
def TzT (w : World) : Prop := TabAt (renTz.g 1) Lib.deBruijn64tab w
theorem tz_any (x : Nat) (w : World) (hx : x < 18446744073709551616) (hT : TzT w) :
    Calls Tryz.prog 114 #[.int .u64 x] w fun e w' => e = .returned (.int .i64 (Lib.ctz 64 x)) ∧ w' = w :=
  Any7.bits_TrailingZeros64 laysTz x hx w fun _ => hT
theorem passes_any (m b : Nat) (w : World) (hm : 3 ≤ m) (hm2 : m ≤ 2147483647) (hb : b < m) (hT : TzT w) :
    Calls Tryz.prog 62 #[.int .u64 m, .int .u64 b] w fun e w' => e = .returned (.bool (Cp.ps m b)) ∧ w = w' := by
  have e1 : (m : Int) - 1 = ((m - 1 : Nat) : Int) := by omega
  have v1 : IntKind.u64.wrap ((m - 1 : Nat) : Int) = ((m - 1 : Nat) : Int) := by rw [IntKind.wrap_u64]; omega
  have hs := (Lib.lowest_bit 64 (m - 1) (by omega) (by omega)).2
  generalize hS : Lib.ctz 64 (m - 1) = s at hs
  have HS := (show Hid _ from hS)
  generalize hD : (m - 1) / 2 ^ s = d
  have HD := (show Hid _ from hD)
  have hd : d < 4294967296 := by have := Nat.div_le_self (m - 1) (2 ^ s); omega
  have HP : Hid (Cp.ps m b = (b ^ d % m == 1 || Cp.sq m s (b ^ d % m))) := by
    show _ = _
    unfold Cp.ps
    rw [hS, hD]
  have eD : ((m - 1 : Nat) : Int) / 2 ^ s = (d : Int) := by
    rw [← HD.out, Int.natCast_ediv, Int.natCast_pow]; rfl
  clear hS hD
  have eA : (b : Int) ^ d % (m : Int) = ((b ^ d % m : Nat) : Int) := by rw [Int.natCast_emod, Int.natCast_pow]
  have hA : b ^ d % m < m := Nat.mod_lt _ (by omega)
  generalize hA0 : b ^ d % m = A at *
  clear hA0
  go_enter Tryz.func62, Tryz.ntmps62
  go_wp2_with fail
  refine (tz_any (m - 1) _ (by omega) hT).mono ?_
  rintro e w1 ⟨rfl, rfl⟩
  rw [HS.out]
  go_wp2_with fail
  refine (power_any m b d _ (by omega) (by omega) (by omega) (by omega) hd).mono ?_
  rintro e w1 ⟨rfl, rfl⟩
  rw [eA]
  by_cases h1 : A = 1
  · have c1 : (A : Int) = 1 := by omega
    have HE : Hid (Cp.ps m b = true) := by
      show _ = _
      rw [HP.out, h1]
      rfl
    go_wp2
    go_ret
    exact ⟨by rw [HE.out]; rfl, rfl⟩
  · have c1 : ¬ (A : Int) = 1 := by omega
    have c2 : ((A : Int) == 1) = false := by rw [beq_eq_false_iff_ne]; exact c1
    have HE : Hid (Cp.ps m b = Cp.sq m s A) := by
      show _ = _
      rw [HP.out, show (A == 1) = false from by rw [beq_eq_false_iff_ne]; exact h1]
      rfl
    clear HP
    go_wp2
    go_loop [7, 21] (fun av iv => ∃ a i : Nat, av = .int .u64 a ∧ iv = .int .i64 i ∧ i ≤ s ∧ a < m ∧ Hid (Cp.sq m s A = Cp.sq m (s - i) a)) (fun _ iv => s - (intOf iv).toNat)
    case atStart => exact ⟨A, 0, rfl, rfl, by omega, hA, rfl⟩
    case round =>
      obtain ⟨a, i, rfl, rfl, hi, ha, H⟩ := hrel
      rcases Nat.lt_or_ge i s with h2 | h2
      · have d1 : (i : Int) < (s : Int) := by omega
        obtain ⟨k, hk⟩ : ∃ k, s - i = k + 1 := ⟨s - i - 1, by omega⟩
        have HQ : Hid (Cp.sq m s A = (a == m - 1 || Cp.sq m k (a * a % m))) := by
          show _ = _
          rw [H.out, hk]
          rfl
        have hk1 : s - (i + 1) = k := by omega
        clear H
        by_cases h3 : a = m - 1
        · have d2 : (a : Int) = ((m - 1 : Nat) : Int) := by rw [h3]
          have HF : Hid (Cp.ps m b = true) := by
            show _ = _
            rw [HE.out, HQ.out, h3, show (m - 1 == m - 1) = true from beq_self_eq_true _]
            rfl
          go_wp2
          go_ret
          exact ⟨by rw [HF.out]; rfl, rfl⟩
        · have d2 : ¬ (a : Int) = ((m - 1 : Nat) : Int) := by omega
          have d3 : ((a : Int) == ((m - 1 : Nat) : Int)) = false := by rw [beq_eq_false_iff_ne]; exact d2
          have eS : Hid ((a : Int) * (a : Int) % (m : Int) = ((a * a % m : Nat) : Int)) := by show _ = _; rw [Int.natCast_emod, Int.natCast_mul]
          have hS1 : a * a % m < m := Nat.mod_lt _ (by omega)
          have v2 : IntKind.i64.wrap ((i : Int) + 1) = ((i + 1 : Nat) : Int) := by rw [IntKind.wrap_i64]; omega
          have HF : Hid (Cp.sq m s A = Cp.sq m k (a * a % m)) := by
            show _ = _
            rw [HQ.out, show (a == m - 1) = false from by rw [beq_eq_false_iff_ne]; exact h3]
            rfl
          clear HQ
          generalize a * a % m = q at *
          go_wp2_with fail
          refine (times_any m a a _ (by omega) (by omega) (by omega) (by omega) (by omega) (by omega)).mono ?_
          rintro e w1 ⟨rfl, rfl⟩
          rw [eS.out]
          go_wp2
          go_round
          case rel => exact ⟨q, i + 1, rfl, by go_num, by omega, hS1, by show _ = _; rw [HF.out, hk1]⟩
          case measure => simp [intOf]; omega
      · have d1 : ¬ (i : Int) < (s : Int) := by omega
        have HF : Hid (Cp.ps m b = false) := by
          show _ = _
          rw [HE.out, H.out, show s - i = 0 by omega]
          rfl
        clear H
        go_wp2
        go_ret
        exact ⟨by rw [HF.out]; rfl, rfl⟩
def rest (m : Nat) : Nat → Bool
  | 0 => bif m % 2 == 0 then m == 2 else bif !Cp.ps m 2 then false else (bif m % 3 == 0 then m == 3 else bif !Cp.ps m 3 then false else (bif m % 5 == 0 then m == 5 else bif !Cp.ps m 5 then false else (bif m % 7 == 0 then m == 7 else Cp.ps m 7)))
  | 1 => bif m % 3 == 0 then m == 3 else bif !Cp.ps m 3 then false else (bif m % 5 == 0 then m == 5 else bif !Cp.ps m 5 then false else (bif m % 7 == 0 then m == 7 else Cp.ps m 7))
  | 2 => bif m % 5 == 0 then m == 5 else bif !Cp.ps m 5 then false else (bif m % 7 == 0 then m == 7 else Cp.ps m 7)
  | 3 => bif m % 7 == 0 then m == 7 else Cp.ps m 7
  | _ => true
theorem base0 (w : World) : Sem.run Tryz.prog (Instr.index 126 (.agg #[.int .u64 2, .int .u64 3, .int .u64 5, .int .u64 7]) (.int .i64 0)) w = .ok (.int .u64 2) w := by kernel_rfl
theorem base1 (w : World) : Sem.run Tryz.prog (Instr.index 126 (.agg #[.int .u64 2, .int .u64 3, .int .u64 5, .int .u64 7]) (.int .i64 1)) w = .ok (.int .u64 3) w := by kernel_rfl
theorem base2 (w : World) : Sem.run Tryz.prog (Instr.index 126 (.agg #[.int .u64 2, .int .u64 3, .int .u64 5, .int .u64 7]) (.int .i64 2)) w = .ok (.int .u64 5) w := by kernel_rfl
theorem base3 (w : World) : Sem.run Tryz.prog (Instr.index 126 (.agg #[.int .u64 2, .int .u64 3, .int .u64 5, .int .u64 7]) (.int .i64 3)) w = .ok (.int .u64 7) w := by kernel_rfl
theorem passes_z (m b : Nat) (z : Int) (hz : z = (b : Int)) (w : World) (hm : 3 ≤ m) (hm2 : m ≤ 2147483647) (hb : b < m) (hT : TzT w) :
    Calls Tryz.prog 62 #[.int .u64 m, .int .u64 z] w fun e w' => e = .returned (.bool (Cp.ps m b)) ∧ w = w' := by
  rw [hz]
  exact passes_any m b w hm hm2 hb hT
theorem isPrime_in (m : Nat) (w : World) (hm : 2 ≤ m) (hm2 : m ≤ 2147483647) (hT : TzT w) :
    Calls Tryz.prog 26 #[.int .i64 m] w fun e w' => e = .returned (.bool (Mr.isp m)) ∧ w = w' := by
  have v0 : IntKind.u64.wrap (m : Int) = (m : Int) := by rw [IntKind.wrap_u64]; omega
  have g1 : ¬ (m : Int) < 2 := by omega
  have g2 : ¬ (2147483647 : Int) < (m : Int) := by omega
  go_enter Tryz.func26, Tryz.ntmps26
  go_wp2
  go_loop [5, 15] (fun _ iv => ∃ i : Nat, iv = .int .i64 i ∧ i ≤ 4 ∧ Hid (Mr.isp m = rest m i ∧ (i = 1 → m % 2 ≠ 0) ∧ (i = 2 → m % 2 ≠ 0 ∧ m % 3 ≠ 0) ∧ (i = 3 → m % 2 ≠ 0 ∧ m % 3 ≠ 0 ∧ m % 5 ≠ 0))) (fun _ iv => 4 - (intOf iv).toNat)
  case atStart => exact ⟨0, rfl, by omega, rfl, by omega, by omega, by omega⟩
  case round =>
    obtain ⟨i, rfl, hi, H⟩ := hrel
    clear g1 g2
    obtain rfl | rfl | rfl | rfl | rfl : i = 0 ∨ i = 1 ∨ i = 2 ∨ i = 3 ∨ i = 4 := by omega
    · have e1 : (m : Int).tmod 2 = ((m % 2 : Nat) : Int) := by rw [Int.tmod_eq_emod_of_nonneg (by omega)]; omega
      have e2 : IntKind.u64.wrap ((m % 2 : Nat) : Int) = ((m % 2 : Nat) : Int) := by rw [IntKind.wrap_u64]; omega
      by_cases hb : m % 2 = 0
      · have c1 : ((m % 2 : Nat) : Int) = 0 := by omega
        have HN : Hid (Mr.isp m = (m == 2)) := by
          show _ = _
          rw [H.out.1]
          show (bif _ then _ else _) = _
          rw [hb]
          rfl
        have HD : Hid (((m : Int) == 2) = (m == 2)) := by
          show _ = _
          rw [Bool.eq_iff_iff]
          simp only [beq_iff_eq]
          omega
        clear H hb
        go_wp2_with (simp only [base0])
        go_ret
        exact ⟨by rw [HN.out, ← HD.out]; rfl, rfl⟩
      · have c1 : ¬ ((m % 2 : Nat) : Int) = 0 := by omega
        have c2 : (((m % 2 : Nat) : Int) == 0) = false := by rw [beq_eq_false_iff_ne]; exact c1
        have hbm : 2 < m := by
          have HP := True.intro
          rcases Nat.lt_or_ge 2 m with h | h
          · exact h
          · exfalso
            have : m = 2 ∨ m = 3 ∨ m = 4 ∨ m = 5 ∨ m = 6 ∨ m = 7 := by omega
            rcases this with rfl | rfl | rfl | rfl | rfl | rfl <;> first | omega | (simp at hb HP) | (simp at hb)
        have HX : Hid (Mr.isp m = (bif !Cp.ps m 2 then false else rest m 1)) := by
          show _ = _
          rw [H.out.1]
          show (bif _ then _ else _) = _
          rw [show (m % 2 == 0) = false from by rw [beq_eq_false_iff_ne]; exact hb, cond_false]
          rfl
        have HB : Hid (m % 2 ≠ 0) := by
          show _
          exact hb
        clear H
        cases hc : Cp.ps m 2 with
        | true =>
          have HC := (show Hid _ from hc)
          have HN : Hid (Mr.isp m = rest m 1) := by show _ = _; rw [HX.out, hc]; rfl
          clear HX hc hb
          go_wp2_with (simp only [base0])
          refine (passes_z m 2 2 rfl _ (by omega) hm2 hbm hT).mono ?_
          rintro e w1 ⟨rfl, rfl⟩
          rw [HC.out]
          go_wp2
          go_round
          case rel => exact ⟨1, by go_num, by omega, HN.out, by have := HB.out; omega, by have := HB.out; omega, by have := HB.out; omega⟩
          case measure => simp [intOf]
        | false =>
          have HC := (show Hid _ from hc)
          have HN : Hid (Mr.isp m = false) := by show _ = _; rw [HX.out, hc]; rfl
          clear HX hc hb
          go_wp2_with (simp only [base0])
          refine (passes_z m 2 2 rfl _ (by omega) hm2 hbm hT).mono ?_
          rintro e w1 ⟨rfl, rfl⟩
          rw [HC.out]
          go_wp2
          go_ret
          exact ⟨by rw [HN.out]; rfl, rfl⟩
    · have e1 : (m : Int).tmod 3 = ((m % 3 : Nat) : Int) := by rw [Int.tmod_eq_emod_of_nonneg (by omega)]; omega
      have e2 : IntKind.u64.wrap ((m % 3 : Nat) : Int) = ((m % 3 : Nat) : Int) := by rw [IntKind.wrap_u64]; omega
      by_cases hb : m % 3 = 0
      · have c1 : ((m % 3 : Nat) : Int) = 0 := by omega
        have HN : Hid (Mr.isp m = (m == 3)) := by
          show _ = _
          rw [H.out.1]
          show (bif _ then _ else _) = _
          rw [hb]
          rfl
        have HD : Hid (((m : Int) == 3) = (m == 3)) := by
          show _ = _
          rw [Bool.eq_iff_iff]
          simp only [beq_iff_eq]
          omega
        clear H hb
        go_wp2_with (simp only [base1])
        go_ret
        exact ⟨by rw [HN.out, ← HD.out]; rfl, rfl⟩
      · have c1 : ¬ ((m % 3 : Nat) : Int) = 0 := by omega
        have c2 : (((m % 3 : Nat) : Int) == 0) = false := by rw [beq_eq_false_iff_ne]; exact c1
        have hbm : 3 < m := by
          have HP := H.out.2.1 rfl
          rcases Nat.lt_or_ge 3 m with h | h
          · exact h
          · exfalso
            have : m = 2 ∨ m = 3 ∨ m = 4 ∨ m = 5 ∨ m = 6 ∨ m = 7 := by omega
            rcases this with rfl | rfl | rfl | rfl | rfl | rfl <;> first | omega | (simp at hb HP) | (simp at hb)
        have HX : Hid (Mr.isp m = (bif !Cp.ps m 3 then false else rest m 2)) := by
          show _ = _
          rw [H.out.1]
          show (bif _ then _ else _) = _
          rw [show (m % 3 == 0) = false from by rw [beq_eq_false_iff_ne]; exact hb, cond_false]
          rfl
        have HB : Hid (m % 2 ≠ 0 ∧ m % 3 ≠ 0) := by
          show _
          exact ⟨H.out.2.1 rfl, hb⟩
        clear H
        cases hc : Cp.ps m 3 with
        | true =>
          have HC := (show Hid _ from hc)
          have HN : Hid (Mr.isp m = rest m 2) := by show _ = _; rw [HX.out, hc]; rfl
          clear HX hc hb
          go_wp2_with (simp only [base1])
          refine (passes_z m 3 3 rfl _ (by omega) hm2 hbm hT).mono ?_
          rintro e w1 ⟨rfl, rfl⟩
          rw [HC.out]
          go_wp2
          go_round
          case rel => exact ⟨2, by go_num, by omega, HN.out, by have := HB.out; omega, by have := HB.out; omega, by have := HB.out; omega⟩
          case measure => simp [intOf]
        | false =>
          have HC := (show Hid _ from hc)
          have HN : Hid (Mr.isp m = false) := by show _ = _; rw [HX.out, hc]; rfl
          clear HX hc hb
          go_wp2_with (simp only [base1])
          refine (passes_z m 3 3 rfl _ (by omega) hm2 hbm hT).mono ?_
          rintro e w1 ⟨rfl, rfl⟩
          rw [HC.out]
          go_wp2
          go_ret
          exact ⟨by rw [HN.out]; rfl, rfl⟩
    · have e1 : (m : Int).tmod 5 = ((m % 5 : Nat) : Int) := by rw [Int.tmod_eq_emod_of_nonneg (by omega)]; omega
      have e2 : IntKind.u64.wrap ((m % 5 : Nat) : Int) = ((m % 5 : Nat) : Int) := by rw [IntKind.wrap_u64]; omega
      by_cases hb : m % 5 = 0
      · have c1 : ((m % 5 : Nat) : Int) = 0 := by omega
        have HN : Hid (Mr.isp m = (m == 5)) := by
          show _ = _
          rw [H.out.1]
          show (bif _ then _ else _) = _
          rw [hb]
          rfl
        have HD : Hid (((m : Int) == 5) = (m == 5)) := by
          show _ = _
          rw [Bool.eq_iff_iff]
          simp only [beq_iff_eq]
          omega
        clear H hb
        go_wp2_with (simp only [base2])
        go_ret
        exact ⟨by rw [HN.out, ← HD.out]; rfl, rfl⟩
      · have c1 : ¬ ((m % 5 : Nat) : Int) = 0 := by omega
        have c2 : (((m % 5 : Nat) : Int) == 0) = false := by rw [beq_eq_false_iff_ne]; exact c1
        have hbm : 5 < m := by
          have HP := H.out.2.2.1 rfl
          rcases Nat.lt_or_ge 5 m with h | h
          · exact h
          · exfalso
            have : m = 2 ∨ m = 3 ∨ m = 4 ∨ m = 5 ∨ m = 6 ∨ m = 7 := by omega
            rcases this with rfl | rfl | rfl | rfl | rfl | rfl <;> first | omega | (simp at hb HP) | (simp at hb)
        have HX : Hid (Mr.isp m = (bif !Cp.ps m 5 then false else rest m 3)) := by
          show _ = _
          rw [H.out.1]
          show (bif _ then _ else _) = _
          rw [show (m % 5 == 0) = false from by rw [beq_eq_false_iff_ne]; exact hb, cond_false]
          rfl
        have HB : Hid (m % 2 ≠ 0 ∧ m % 3 ≠ 0 ∧ m % 5 ≠ 0) := by
          show _
          exact ⟨(H.out.2.2.1 rfl).1, (H.out.2.2.1 rfl).2, hb⟩
        clear H
        cases hc : Cp.ps m 5 with
        | true =>
          have HC := (show Hid _ from hc)
          have HN : Hid (Mr.isp m = rest m 3) := by show _ = _; rw [HX.out, hc]; rfl
          clear HX hc hb
          go_wp2_with (simp only [base2])
          refine (passes_z m 5 5 rfl _ (by omega) hm2 hbm hT).mono ?_
          rintro e w1 ⟨rfl, rfl⟩
          rw [HC.out]
          go_wp2
          go_round
          case rel => exact ⟨3, by go_num, by omega, HN.out, by have := HB.out; omega, by have := HB.out; omega, by have := HB.out; omega⟩
          case measure => simp [intOf]
        | false =>
          have HC := (show Hid _ from hc)
          have HN : Hid (Mr.isp m = false) := by show _ = _; rw [HX.out, hc]; rfl
          clear HX hc hb
          go_wp2_with (simp only [base2])
          refine (passes_z m 5 5 rfl _ (by omega) hm2 hbm hT).mono ?_
          rintro e w1 ⟨rfl, rfl⟩
          rw [HC.out]
          go_wp2
          go_ret
          exact ⟨by rw [HN.out]; rfl, rfl⟩
    · have e1 : (m : Int).tmod 7 = ((m % 7 : Nat) : Int) := by rw [Int.tmod_eq_emod_of_nonneg (by omega)]; omega
      have e2 : IntKind.u64.wrap ((m % 7 : Nat) : Int) = ((m % 7 : Nat) : Int) := by rw [IntKind.wrap_u64]; omega
      by_cases hb : m % 7 = 0
      · have c1 : ((m % 7 : Nat) : Int) = 0 := by omega
        have HN : Hid (Mr.isp m = (m == 7)) := by
          show _ = _
          rw [H.out.1]
          show (bif _ then _ else _) = _
          rw [hb]
          rfl
        have HD : Hid (((m : Int) == 7) = (m == 7)) := by
          show _ = _
          rw [Bool.eq_iff_iff]
          simp only [beq_iff_eq]
          omega
        clear H hb
        go_wp2_with (simp only [base3])
        go_ret
        exact ⟨by rw [HN.out, ← HD.out]; rfl, rfl⟩
      · have c1 : ¬ ((m % 7 : Nat) : Int) = 0 := by omega
        have c2 : (((m % 7 : Nat) : Int) == 0) = false := by rw [beq_eq_false_iff_ne]; exact c1
        have hbm : 7 < m := by
          have HP := H.out.2.2.2 rfl
          rcases Nat.lt_or_ge 7 m with h | h
          · exact h
          · exfalso
            have : m = 2 ∨ m = 3 ∨ m = 4 ∨ m = 5 ∨ m = 6 ∨ m = 7 := by omega
            rcases this with rfl | rfl | rfl | rfl | rfl | rfl <;> first | omega | (simp at hb HP) | (simp at hb)
        have HX : Hid (Mr.isp m = (bif !Cp.ps m 7 then false else rest m 4)) := by
          show _ = _
          rw [H.out.1]
          show (bif _ then _ else _) = _
          rw [show (m % 7 == 0) = false from by rw [beq_eq_false_iff_ne]; exact hb, cond_false]
          show Cp.ps m 7 = (bif !Cp.ps m 7 then false else true)
          cases Cp.ps m 7 <;> rfl
        have HB : Hid (True) := by
          show _
          trivial
        clear H
        cases hc : Cp.ps m 7 with
        | true =>
          have HC := (show Hid _ from hc)
          have HN : Hid (Mr.isp m = rest m 4) := by show _ = _; rw [HX.out, hc]; rfl
          clear HX hc hb
          go_wp2_with (simp only [base3])
          refine (passes_z m 7 7 rfl _ (by omega) hm2 hbm hT).mono ?_
          rintro e w1 ⟨rfl, rfl⟩
          rw [HC.out]
          go_wp2
          go_round
          case rel => exact ⟨4, by go_num, by omega, HN.out, by have := HB.out; omega, by have := HB.out; omega, by have := HB.out; omega⟩
          case measure => simp [intOf]
        | false =>
          have HC := (show Hid _ from hc)
          have HN : Hid (Mr.isp m = false) := by show _ = _; rw [HX.out, hc]; rfl
          clear HX hc hb
          go_wp2_with (simp only [base3])
          refine (passes_z m 7 7 rfl _ (by omega) hm2 hbm hT).mono ?_
          rintro e w1 ⟨rfl, rfl⟩
          rw [HC.out]
          go_wp2
          go_ret
          exact ⟨by rw [HN.out]; rfl, rfl⟩
    · have HN : Hid (Mr.isp m = true) := by show _ = _; rw [H.out.1]; rfl
      clear H
      go_wp2
      go_ret
      exact ⟨by rw [HN.out]; rfl, rfl⟩
theorem isPrime_out (z : Int) (w : World) (h0 : -9223372036854775808 ≤ z ∧ z ≤ 9223372036854775807) (h : z < 2 ∨ 2147483647 < z) :
    Calls Tryz.prog 26 #[.int .i64 z] w fun e w' => e = .returned (.bool false) ∧ w = w' := by
  by_cases g1 : z < 2
  · go_enter Tryz.func26, Tryz.ntmps26
    go_wp2
    go_ret
    exact ⟨rfl, rfl⟩
  · have g2 : (2147483647 : Int) < z := by omega
    go_enter Tryz.func26, Tryz.ntmps26
    go_wp2
    go_ret
    exact ⟨rfl, rfl⟩
end Go.Proofs.YtkbgeggflhfleaaGreatDoor.Rs
