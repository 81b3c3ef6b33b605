/-
  Small rules on the reference's numbers in a list.
-/
import Derived.Test.YtmjokfcojilidaaGreatDoorCyViDsAe
import Derived.Test.YtmjokfcojilidaaGreatDoorReRxRfRhCqRrRwVa
import Derived.Test.YtmjokfcojilidaaGreatDoorWlBxBbCvNj
import Derived.Test.YtmjokfcojilidaaGreatDoorWhPnWk
import Derived.Test.YtmjokfcojilidaaGreatDoorUeUfUg
namespace Go.Proofs.YtmjokfcojilidaaGreatDoor
open Go.RowKit
set_option linter.unusedVariables false
set_option linter.unusedSimpArgs false

theorem rval_abs (s : Bool) {ds : List Int} (h : U16 ds) : vd ds = ((rval s ds).natAbs : Int) := by
  have := vd_nonneg h
  unfold rval
  split <;> omega
theorem RE.set2 {w : World} {N : Nat} {z : Int} {e : Ent} {g o : Nat} {u v : Value} (h : RE w N z e) (ho : 0 < e.n → Off g e.p) : RE ((w.setCell ⟨g, o, none⟩ u).setCell ⟨g, o + 1, none⟩ v) N z e := by
  obtain ⟨⟨ds, h1, h2⟩, h4⟩ := h
  refine ⟨⟨ds, ⟨h1.len, fun hx => ?_, h1.u, h1.nrm, h1.sg, h1.sml⟩, h2⟩, h4⟩
  have := ho (by rw [h1.len] at hx; exact hx)
  exact ((h1.rd.set_other ⟨g, o, none⟩ u this).set_other ⟨g, o + 1, none⟩ v this) hx
theorem RN.fit {w : World} {s : Bool} {p : Option Addr} {n N : Nat} {ds : List Int} (h : RN w s p n ds) (hz : ((rval s ds).natAbs : Int) < pd N) : n ≤ N := by
  have a := vd_nonneg h.u
  have e : ((rval s ds).natAbs : Int) = vd ds := by unfold rval; split <;> omega
  rw [e] at hz
  rcases Nat.lt_or_ge N n with hk | hk
  · have b := vd_pos_of_top h.u (by rw [h.nrm]; omega)
    rw [h.nrm] at b
    have c := pd_mono (show N ≤ n - 1 by omega)
    omega
  · exact hk
theorem RE_al {w : World} {N : Nat} {z : Int} {e : Ent} {o : Obj} (h : RE w N z e) : RE (w.alloc o) N z e := h.below ((Below.refl _ _).alloc (Nat.le_refl _) o)
theorem re_st {w : World} {N : Nat} {z : Int} {e : Ent} {a : Addr} {v : Value} (h : RE w N z e) (ho : 0 < e.n → Off a.block e.p) : RE (w.setCell a v) N z e := by
  obtain ⟨⟨ds, h1, h2⟩, h4⟩ := h
  exact ⟨⟨ds, ⟨h1.len, fun hx => (h1.rd.set_other a v (ho (by rw [h1.len] at hx; exact hx))) hx, h1.u, h1.nrm, h1.sg, h1.sml⟩, h2⟩, h4⟩
theorem RE_st2 {w : World} {N U : Nat} {z : Int} {e : Ent} {a : Addr} {v : Value} (hU : 0 < e.n → ∀ x, e.p = some x → x.block < U) (ha : U ≤ a.block) (h : RE w N z e) : RE (w.setCell a v) N z e := re_st h fun h0 b hb e' => by have := hU h0 b hb; omega
theorem RE_st3 {w : World} {N F : Nat} {z : Int} {e : Ent} {a : Addr} {v : Value} (hF : Go.Proofs.YtmjokfcojilidaaGreatDoor.From F e.p) (ha : a.block < F) (h : RE w N z e) : RE (w.setCell a v) N z e := re_st h fun h0 b hb e' => by have := hF b hb; omega
theorem unFr {w : World} {p : Option Addr} (h : Go.Proofs.YtmjokfcojilidaaGreatDoor.From w.drew.heap.size p) : Go.Proofs.YtmjokfcojilidaaGreatDoor.From w.heap.size p := h
theorem keep4R {w w' : World} {a c i j k l : Nat} {u v x y : Value} (h : w.cell? ⟨a, i, none⟩ = some u ∧ w.cell? ⟨a, j, none⟩ = some v ∧ w.cell? ⟨c, k, none⟩ = some x ∧ w.cell? ⟨c, l, none⟩ = some y) (hb : Below w.heap.size w w') : w'.cell? ⟨a, i, none⟩ = some u ∧ w'.cell? ⟨a, j, none⟩ = some v ∧ w'.cell? ⟨c, k, none⟩ = some x ∧ w'.cell? ⟨c, l, none⟩ = some y :=
  ⟨cell_later hb h.1, cell_later hb h.2.1, cell_later hb h.2.2.1, cell_later hb h.2.2.2⟩
theorem Bx.kept {w w' : World} {r : Nat} {a b : Value} {row : Option Nat} (h : Bx w r a b) (hg : w.grownBy w' row) (hne : some r ≠ row) : Bx w' r a b := by
  have e : w'.heap[r]? = w.heap[r]? := hg.block r (block_lt_of_cell h.c0) hne
  exact ⟨(World.cell?_of_block (a := ⟨r, 0, none⟩) e).trans h.c0, (World.cell?_of_block (a := ⟨r, 1, none⟩) e).trans h.c1, (World.frozen?_of_block (a := ⟨r, 0, none⟩) e).trans h.f0, (World.frozen?_of_block (a := ⟨r, 1, none⟩) e).trans h.f1⟩
theorem tr_of_tlen {zs : List Int} (h : tlen zs = zs.length) : tr zs = zs := by rw [tr, h, List.take_length]
theorem sign_re {w : World} {N : Nat} {z : Int} {e : Ent} (h : RE w N z e) (hz : z ≠ 0) : e.s = decide (z < 0) := by
  obtain ⟨⟨ds, h1, h2, h3⟩, h4⟩ := h
  have := vd_nonneg h1.u
  cases hs : e.s <;> rw [hs, rval] at h2 <;> simp at h2 <;> simp <;> omega
end Go.Proofs.YtmjokfcojilidaaGreatDoor
/-
  limbs.Mod.
-/
namespace Go.Proofs.YtmjokfcojilidaaGreatDoor
open Go.RowKit
set_option linter.unusedVariables false
set_option linter.unusedSimpArgs false

set_option maxHeartbeats 1000000 in
/-- limbs.Mod: a small number that is none. -/
theorem Mod_bad (s : Bool) (p : Option Addr) (n nc : Nat) (m : Int) (w : World) (h : m < 1 ∨ 2147483647 < m) :
    Calls Tryz.prog 191 #[.agg #[.bool s, .slice p n nc], .int .i64 m] w fun e w' => e = .returned (.tuple #[.int .i64 0, .int .i64 1]) ∧ Below w.heap.size w w' := by
  rcases h with h | h
  · go_enter Tryz.func191, Tryz.ntmps191
    go_wp2
    go_ret2
    exact ⟨rfl, (Below.refl _ _).alloc (Nat.le_refl _) _⟩
  · have h' : ¬ m < 1 := by omega
    go_enter Tryz.func191, Tryz.ntmps191
    go_wp2
    go_ret2
    exact ⟨rfl, (Below.refl _ _).alloc (Nat.le_refl _) _⟩

set_option maxHeartbeats 1000000 in
/-- limbs.Mod. -/
theorem Mod_any (s : Bool) (p : Option Addr) (n nc : Nat) (xs : List Int) (m : Int) (w : World) (hA : AI w p n nc xs) (h1 : 1 ≤ m) (h2 : m ≤ 2147483647) :
    Calls Tryz.prog 191 #[.agg #[.bool s, .slice p n nc], .int .i64 m] w fun e w' => e = .returned (.tuple #[.int .i64 (ival s xs % m), .int .i64 0]) ∧ Below w.heap.size w w' := by
  have h1' : ¬ m < 1 := by omega
  have h2' : ¬ 2147483647 < m := by omega
  have hl := hA.len
  have hs := hA.sml
  go_enter Tryz.func191, Tryz.ntmps191
  go_wp2
  go_loop [6, 7] (fun rv iv => ∃ (k : Nat) (r : Int), k ≤ n ∧ iv = .int .i64 ((k : Int) - 1) ∧ rv = .int .u64 r ∧ 0 ≤ r ∧ r < m ∧ Hid (r = val (xs.drop k) % m)) (fun _ iv => (intOf iv + 1).toNat)
  case atStart => exact ⟨n, 0, Nat.le_refl _, by go_num, rfl, by decide, by omega, by show _ = _; rw [List.drop_of_length_le (by omega)]; simp [val]⟩
  case round =>
    obtain ⟨k, r, hk, rfl, rfl, hr0, hr1, HR⟩ := hrel
    by_cases h0 : k = 0
    · subst h0
      have hv := HR.out
      rw [List.drop_zero] at hv
      have HV : Hid (r = val xs % m) := hv
      clear hv HR
      cases s
      · go_wp2
        go_ret2
        have hv := HV.out
        subst hv
        exact ⟨rfl, (Below.refl _ _).alloc (Nat.le_refl _) _⟩
      · by_cases hz : r = 0
        · have hz' : ¬ 0 < r := by omega
          go_wp2
          go_ret2
          have hv := HV.out
          have e : ival true xs % m = 0 := by
            simp only [ival, if_true]; rw [hz] at hv; exact Int.emod_eq_zero_of_dvd (Int.dvd_neg.2 (Int.dvd_of_emod_eq_zero hv.symm))
          rw [e]
          exact ⟨rfl, (Below.refl _ _).alloc (Nat.le_refl _) _⟩
        · have hz' : 0 < r := by omega
          go_wp2
          go_ret2
          have hv := HV.out
          have e : ival true xs % m = m - r := by
            simp only [ival, if_true]
            exact neg_emod h1 hv hz
          rw [e]
          exact ⟨rfl, (Below.refl _ _).alloc (Nat.le_refl _) _⟩
    · obtain ⟨j, rfl⟩ : ∃ j, k = j + 1 := ⟨k - 1, by omega⟩
      have ej : ((j + 1 : Nat) : Int) - 1 = (j : Int) := by omega
      rw [ej]
      clear ej
      obtain ⟨b, off, hp, hcell⟩ := hA.rd (by omega)
      have hc := hcell j (by omega)
      have hlt := block_lt_of_cell hc
      obtain ⟨b0, b1⟩ := hA.u j
      have ho := or_join r (gx xs j) hr0 (by omega) b0 b1
      have hmz : (m == 0) = false := beq_eq_false_iff_ne.2 (by omega)
      subst hp
      clear hcell
      go_wp2
      refine ⟨⟨j, _, by omega, rfl, rfl, Int.emod_nonneg _ (by omega), Int.emod_lt_of_pos _ (by omega), ?_⟩, by simp [intOf]⟩
      show _ = _
      rw [drop_cons xs j (by omega)]
      simp only [val]
      have e := Int.emod_add_mul_ediv (val (xs.drop (j + 1))) m
      rw [← HR.out] at e
      have e2 : gx xs j + 4294967296 * val (xs.drop (j + 1)) = (r * 4294967296 + gx xs j) + m * (4294967296 * (val (xs.drop (j + 1)) / m)) := by
        rw [Int.mul_left_comm]; omega
      rw [e2, Int.add_mul_emod_self_left]
end Go.Proofs.YtmjokfcojilidaaGreatDoor
/-
  upoly: residues: of, times, minus, power, inverse.
-/
namespace Go.Proofs.YtmjokfcojilidaaGreatDoor
open Go.RowKit
set_option linter.unusedVariables false
set_option linter.unusedSimpArgs false

theorem pow_emod (x m : Int) : ∀ j : Nat, (x % m) ^ j % m = x ^ j % m
  | 0 => by simp
  | j + 1 => by rw [Int.pow_succ, Int.pow_succ, Int.mul_emod, pow_emod x m j, Int.emod_emod, ← Int.mul_emod]
theorem mul_bdp {a b m : Int} (a0 : 0 ≤ a) (b0 : 0 ≤ b) (a1 : a < m) (b1 : b < m) (hm : m ≤ 2147483647) : 0 ≤ a * b ∧ a * b ≤ 2147483647 * 2147483647 :=
  ⟨Int.mul_nonneg a0 b0, Int.mul_le_mul (by omega) (by omega) b0 (by decide)⟩
set_option maxHeartbeats 2000000 in
/-- (upoly.prime).times. -/
theorem times_any (m a b : Int) (w : World) (hm : 2 ≤ m) (hm2 : m ≤ 2147483647) (a0 : 0 ≤ a) (a1 : a < m) (b0 : 0 ≤ b) (b1 : b < m) :
    Calls Tryz.prog 195 #[.int .u64 m, .int .u64 a, .int .u64 b] w fun e w' => e = .returned (.int .u64 (a * b % m)) ∧ w = w' := by
  obtain ⟨p0, p1⟩ := mul_bdp a0 b0 a1 b1 hm2
  have hm0 : ¬ m = 0 := by omega
  have hm0' : (m == 0) = false := by rw [beq_eq_false_iff_ne]; exact hm0
  generalize hP : a * b = P at *
  have HP := (show Hid _ from hP)
  have e : P.tmod m = P % m := Int.tmod_eq_emod_of_nonneg p0
  have q0 := Int.emod_nonneg P hm0
  have q1 := Int.emod_lt_of_pos P (show 0 < m by omega)
  have v1 : IntKind.u64.wrap P = P := by rw [IntKind.wrap_u64]; omega
  have v2 : IntKind.u64.wrap (P % m) = P % m := by rw [IntKind.wrap_u64]; omega
  go_enter Tryz.func195, Tryz.ntmps195
  go_wp2
  go_ret
  exact ⟨rfl, rfl⟩
set_option maxHeartbeats 2000000 in
/-- (upoly.prime).minus. -/
theorem minus_any (m a b : Int) (w : World) (hm : 2 ≤ m) (hm2 : m ≤ 2147483647) (a0 : 0 ≤ a) (a1 : a < m) (b0 : 0 ≤ b) (b1 : b < m) :
    Calls Tryz.prog 196 #[.int .u64 m, .int .u64 a, .int .u64 b] w fun e w' => e = .returned (.int .u64 ((a - b) % m)) ∧ w = w' := by
  have hm0 : ¬ m = 0 := by omega
  have hm0' : (m == 0) = false := by rw [beq_eq_false_iff_ne]; exact hm0
  have e0 : (a - b) % m = (a + m - b) % m := by rw [show a + m - b = (a - b) + m by omega, Int.add_emod_right]
  rw [e0]
  have v0 : IntKind.u64.wrap (a + m) = a + m := by rw [IntKind.wrap_u64]; omega
  have v1 : IntKind.u64.wrap (a + m - b) = a + m - b := by rw [IntKind.wrap_u64]; omega
  have e : (a + m - b).tmod m = (a + m - b) % m := Int.tmod_eq_emod_of_nonneg (by omega)
  have q0 := Int.emod_nonneg (a + m - b) hm0
  have q1 := Int.emod_lt_of_pos (a + m - b) (show 0 < m by omega)
  have v2 : IntKind.u64.wrap ((a + m - b) % m) = (a + m - b) % m := by rw [IntKind.wrap_u64]; omega
  go_enter Tryz.func196, Tryz.ntmps196
  go_wp2
  go_ret
  exact ⟨rfl, rfl⟩
set_option maxHeartbeats 2000000 in
/-- (upoly.prime).power. -/
theorem power_any (m A : Int) (N : Nat) (w : World) (hm : 2 ≤ m) (hm2 : m ≤ 2147483647) (a0 : 0 ≤ A) (a1 : A < m) (hN : N < 4294967296) :
    Calls Tryz.prog 208 #[.int .u64 m, .int .u64 A, .int .u64 N] w fun e w' => e = .returned (.int .u64 (A ^ N % m)) ∧ w = w' := by
  go_enter Tryz.func208, Tryz.ntmps208
  go_wp2
  go_loop [1, 2, 7] (fun av nv zv => ∃ (z a : Int) (k : Nat), zv = .int .u64 z ∧ av = .int .u64 a ∧ nv = .int .u64 k ∧ 0 ≤ z ∧ z < m ∧ 0 ≤ a ∧ a < m ∧ k < 4294967296 ∧ Hid (z * a ^ k % m = A ^ N % m)) (fun _ nv _ => (intOf nv).toNat)
  case atStart => exact ⟨1, A, N, by go_num, rfl, rfl, by omega, by omega, a0, a1, hN, by show _ = _; rw [Int.one_mul]⟩
  case round =>
    obtain ⟨z, a, k, rfl, rfl, rfl, z0, z1, x0, x1, hk, H⟩ := hrel
    have hm0 : ¬ m = 0 := by omega
    rcases Nat.eq_zero_or_pos k with h0 | h0
    · subst h0
      have HE : Hid (A ^ N % m = z) := by
        show _ = _
        rw [← H.out, Int.pow_zero, Int.mul_one, Int.emod_eq_of_lt z0 z1]
      clear H
      go_wp2
      go_ret
      exact ⟨by rw [HE.out]; rfl, rfl⟩
    · have hk0 : (0 : Int) < (k : Int) := by omega
      have t1 : (k : Int).tmod 2 = ((k % 2 : Nat) : Int) := by rw [Int.tmod_eq_emod_of_nonneg (by omega)]; omega
      have t2 : (k : Int).tdiv 2 = ((k / 2 : Nat) : Int) := by rw [Int.tdiv_eq_ediv_of_nonneg (by omega)]; omega
      have v1 : IntKind.u64.wrap ((k % 2 : Nat) : Int) = ((k % 2 : Nat) : Int) := by rw [IntKind.wrap_u64]; omega
      have v2 : IntKind.u64.wrap ((k / 2 : Nat) : Int) = ((k / 2 : Nat) : Int) := by rw [IntKind.wrap_u64]; omega
      have HA : Hid (∀ u : Int, (u * (a * a % m) ^ (k / 2)) % m = (u * a ^ (2 * (k / 2))) % m) := fun u => by
        rw [Int.mul_emod, pow_emod, ← Int.mul_emod, Int.pow_mul, show a ^ 2 = a * a from by rw [Int.pow_succ, Int.pow_succ, Int.pow_zero, Int.one_mul]]
      have r0 := Int.emod_nonneg (a * a) hm0
      have r1 := Int.emod_lt_of_pos (a * a) (show 0 < m by omega)
      have s0 := Int.emod_nonneg (z * a) hm0
      have s1 := Int.emod_lt_of_pos (z * a) (show 0 < m by omega)
      rcases Nat.mod_two_eq_zero_or_one k with hp | hp
      · have c1 : ¬ ((k % 2 : Nat) : Int) = 1 := by omega
        have c2 : (((k % 2 : Nat) : Int) == 1) = false := by rw [beq_eq_false_iff_ne]; exact c1
        have HP : Hid (k = 2 * (k / 2)) := by show _ = _; omega
        go_wp2_with fail
        refine (times_any m a a _ hm hm2 x0 x1 x0 x1).mono ?_
        rintro e w1 ⟨rfl, rfl⟩
        go_wp2
        go_round
        case rel =>
          refine ⟨z, a * a % m, k / 2, rfl, rfl, by go_num, z0, z1, r0, r1, by omega, ?_⟩
          show _ = _
          rw [HA.out z, ← HP.out]
          exact H.out
        case measure => simp [intOf]; omega
      · have c1 : ((k % 2 : Nat) : Int) = 1 := by omega
        have HP : Hid (k = 2 * (k / 2) + 1) := by show _ = _; omega
        go_wp2_with fail
        refine (times_any m z a _ hm hm2 z0 z1 x0 x1).mono ?_
        rintro e w1 ⟨rfl, rfl⟩
        go_wp2_with fail
        refine (times_any m a a _ hm hm2 x0 x1 x0 x1).mono ?_
        rintro e w1 ⟨rfl, rfl⟩
        go_wp2
        go_round
        case rel =>
          refine ⟨z * a % m, a * a % m, k / 2, rfl, rfl, by go_num, s0, s1, r0, r1, by omega, ?_⟩
          show _ = _
          rw [HA.out, Int.mul_emod, Int.emod_emod, ← Int.mul_emod, Int.mul_assoc]
          rw [show a * a ^ (2 * (k / 2)) = a ^ k from by rw [show k = 2 * (k / 2) + 1 from HP.out, Int.pow_succ, Int.mul_comm]; congr 2; omega]
          exact H.out
        case measure => simp [intOf]; omega
set_option maxHeartbeats 2000000 in
/-- (upoly.prime).inverse. -/
theorem inverse_any (m : Nat) (A : Int) (w : World) (hm : 2 ≤ m) (hm2 : m ≤ 2147483647) (a0 : 0 ≤ A) (a1 : A < m) :
    Calls Tryz.prog 192 #[.int .u64 m, .int .u64 A] w fun e w' => e = .returned (.int .u64 (A ^ (m - 2) % m)) ∧ w = w' := by
  have e : (m : Int) - 2 = ((m - 2 : Nat) : Int) := by omega
  have v : IntKind.u64.wrap ((m - 2 : Nat) : Int) = ((m - 2 : Nat) : Int) := by rw [IntKind.wrap_u64]; omega
  go_enter Tryz.func192, Tryz.ntmps192
  go_wp2_with fail
  refine (power_any m A (m - 2) _ (by omega) (by omega) a0 a1 (by omega)).mono ?_
  rintro e w1 ⟨rfl, rfl⟩
  go_wp2
  go_ret
  exact ⟨rfl, rfl⟩
set_option maxHeartbeats 2000000 in
/-- (upoly.prime).of. -/
theorem of_ev {w : World} {K : Nat} {z : Int} {e : Ent} (h : EV w K z e) (m : Int) (hm : 2 ≤ m) (hm2 : m ≤ 2147483647) :
    Calls Tryz.prog 175 #[.int .u64 m, .agg #[.bool e.s, .slice e.p e.n e.c]] w fun r w' => r = .returned (.int .u64 (z % m)) ∧ Below w.heap.size w w' := by
  obtain ⟨xs, h1, h2, h3⟩ := h
  obtain ⟨es, ep, en, ec⟩ := e
  simp only at h1 h2 h3 ⊢
  have v1 : IntKind.i64.wrap m = m := by rw [IntKind.wrap_i64]; omega
  have q0 := Int.emod_nonneg z (show m ≠ 0 by omega)
  have q1 := Int.emod_lt_of_pos z (show 0 < m by omega)
  have v2 : IntKind.u64.wrap (z % m) = z % m := by rw [IntKind.wrap_u64]; omega
  have HV : Hid (ival es xs = z) := h2
  clear h2
  go_enter Tryz.func175, Tryz.ntmps175
  go_wp2_with fail
  have hW0 := bel_al (o := .cells #[.bool es, .slice ep en ec] 24) (Below.refl w.heap.size w)
  have hm := Mod_any es ep en ec xs m _ (h1.below hW0) (by omega) hm2
  rw [HV.out] at hm
  refine hm.mono ?_
  rintro e w1 ⟨rfl, hb1⟩
  clear hm
  go_wp2
  go_ret
  exact ⟨rfl, bnext' hW0 hb1⟩
end Go.Proofs.YtmjokfcojilidaaGreatDoor
