/-
  upoly: residues: of, times, minus, power, inverse.
-/
import Derived.Test.YtlhgpejapmpcmaaGreatDoorUeUfUg
import Derived.Test.YtlhgpejapmpcmaaGreatDoorUmUoDmDnOyVuWx
namespace Go.Proofs.YtlhgpejapmpcmaaGreatDoor
open Go.RowKit
set_option linter.unusedVariables false
set_option linter.unusedSimpArgs false

theorem pow_emod (x m : Int) : ∀ j : Nat, (x % m) ^ j % m = x ^ j % m
  | 0 => by simp
  | j + 1 => by rw [Int.pow_succ, Int.pow_succ, Int.mul_emod, pow_emod x m j, Int.emod_emod, ← Int.mul_emod]
theorem mul_bdp {a b m : Int} (a0 : 0 ≤ a) (b0 : 0 ≤ b) (a1 : a < m) (b1 : b < m) (hm : m ≤ 2147483647) : 0 ≤ a * b ∧ a * b ≤ 2147483647 * 2147483647 :=
  ⟨Int.mul_nonneg a0 b0, Int.mul_le_mul (by omega) (by omega) b0 (by decide)⟩
set_option maxHeartbeats 2000000 in
/-- (upoly.prime).times. -/
theorem times_any (m a b : Int) (w : World) (hm : 2 ≤ m) (hm2 : m ≤ 2147483647) (a0 : 0 ≤ a) (a1 : a < m) (b0 : 0 ≤ b) (b1 : b < m) :
    Calls Tryz.prog 174 #[.int .u64 m, .int .u64 a, .int .u64 b] w fun e w' => e = .returned (.int .u64 (a * b % m)) ∧ w = w' := by
  obtain ⟨p0, p1⟩ := mul_bdp a0 b0 a1 b1 hm2
  have hm0 : ¬ m = 0 := by omega
  have hm0' : (m == 0) = false := by rw [beq_eq_false_iff_ne]; exact hm0
  generalize hP : a * b = P at *
  have HP := (show Hid _ from hP)
  have e : P.tmod m = P % m := Int.tmod_eq_emod_of_nonneg p0
  have q0 := Int.emod_nonneg P hm0
  have q1 := Int.emod_lt_of_pos P (show 0 < m by omega)
  have v1 : IntKind.u64.wrap P = P := by rw [IntKind.wrap_u64]; omega
  have v2 : IntKind.u64.wrap (P % m) = P % m := by rw [IntKind.wrap_u64]; omega
  go_enter Tryz.func174, Tryz.ntmps174
  go_wp2
  go_ret
  exact ⟨rfl, rfl⟩
set_option maxHeartbeats 2000000 in
/-- (upoly.prime).minus. -/
theorem minus_any (m a b : Int) (w : World) (hm : 2 ≤ m) (hm2 : m ≤ 2147483647) (a0 : 0 ≤ a) (a1 : a < m) (b0 : 0 ≤ b) (b1 : b < m) :
    Calls Tryz.prog 175 #[.int .u64 m, .int .u64 a, .int .u64 b] w fun e w' => e = .returned (.int .u64 ((a - b) % m)) ∧ w = w' := by
  have hm0 : ¬ m = 0 := by omega
  have hm0' : (m == 0) = false := by rw [beq_eq_false_iff_ne]; exact hm0
  have e0 : (a - b) % m = (a + m - b) % m := by rw [show a + m - b = (a - b) + m by omega, Int.add_emod_right]
  rw [e0]
  have v0 : IntKind.u64.wrap (a + m) = a + m := by rw [IntKind.wrap_u64]; omega
  have v1 : IntKind.u64.wrap (a + m - b) = a + m - b := by rw [IntKind.wrap_u64]; omega
  have e : (a + m - b).tmod m = (a + m - b) % m := Int.tmod_eq_emod_of_nonneg (by omega)
  have q0 := Int.emod_nonneg (a + m - b) hm0
  have q1 := Int.emod_lt_of_pos (a + m - b) (show 0 < m by omega)
  have v2 : IntKind.u64.wrap ((a + m - b) % m) = (a + m - b) % m := by rw [IntKind.wrap_u64]; omega
  go_enter Tryz.func175, Tryz.ntmps175
  go_wp2
  go_ret
  exact ⟨rfl, rfl⟩
set_option maxHeartbeats 2000000 in
/-- (upoly.prime).power. -/
theorem power_any (m A : Int) (N : Nat) (w : World) (hm : 2 ≤ m) (hm2 : m ≤ 2147483647) (a0 : 0 ≤ A) (a1 : A < m) (hN : N < 4294967296) :
    Calls Tryz.prog 185 #[.int .u64 m, .int .u64 A, .int .u64 N] w fun e w' => e = .returned (.int .u64 (A ^ N % m)) ∧ w = w' := by
  go_enter Tryz.func185, Tryz.ntmps185
  go_wp2
  go_loop [1, 2, 7] (fun av nv zv => ∃ (z a : Int) (k : Nat), zv = .int .u64 z ∧ av = .int .u64 a ∧ nv = .int .u64 k ∧ 0 ≤ z ∧ z < m ∧ 0 ≤ a ∧ a < m ∧ k < 4294967296 ∧ Hid (z * a ^ k % m = A ^ N % m)) (fun _ nv _ => (intOf nv).toNat)
  case atStart => exact ⟨1, A, N, by go_num, rfl, rfl, by omega, by omega, a0, a1, hN, by show _ = _; rw [Int.one_mul]⟩
  case round =>
    obtain ⟨z, a, k, rfl, rfl, rfl, z0, z1, x0, x1, hk, H⟩ := hrel
    have hm0 : ¬ m = 0 := by omega
    rcases Nat.eq_zero_or_pos k with h0 | h0
    · subst h0
      have HE : Hid (A ^ N % m = z) := by
        show _ = _
        rw [← H.out, Int.pow_zero, Int.mul_one, Int.emod_eq_of_lt z0 z1]
      clear H
      go_wp2
      go_ret
      exact ⟨by rw [HE.out]; rfl, rfl⟩
    · have hk0 : (0 : Int) < (k : Int) := by omega
      have t1 : (k : Int).tmod 2 = ((k % 2 : Nat) : Int) := by rw [Int.tmod_eq_emod_of_nonneg (by omega)]; omega
      have t2 : (k : Int).tdiv 2 = ((k / 2 : Nat) : Int) := by rw [Int.tdiv_eq_ediv_of_nonneg (by omega)]; omega
      have v1 : IntKind.u64.wrap ((k % 2 : Nat) : Int) = ((k % 2 : Nat) : Int) := by rw [IntKind.wrap_u64]; omega
      have v2 : IntKind.u64.wrap ((k / 2 : Nat) : Int) = ((k / 2 : Nat) : Int) := by rw [IntKind.wrap_u64]; omega
      have HA : Hid (∀ u : Int, (u * (a * a % m) ^ (k / 2)) % m = (u * a ^ (2 * (k / 2))) % m) := fun u => by
        rw [Int.mul_emod, pow_emod, ← Int.mul_emod, Int.pow_mul, show a ^ 2 = a * a from by rw [Int.pow_succ, Int.pow_succ, Int.pow_zero, Int.one_mul]]
      have r0 := Int.emod_nonneg (a * a) hm0
      have r1 := Int.emod_lt_of_pos (a * a) (show 0 < m by omega)
      have s0 := Int.emod_nonneg (z * a) hm0
      have s1 := Int.emod_lt_of_pos (z * a) (show 0 < m by omega)
      rcases Nat.mod_two_eq_zero_or_one k with hp | hp
      · have c1 : ¬ ((k % 2 : Nat) : Int) = 1 := by omega
        have c2 : (((k % 2 : Nat) : Int) == 1) = false := by rw [beq_eq_false_iff_ne]; exact c1
        have HP : Hid (k = 2 * (k / 2)) := by show _ = _; omega
        go_wp2_with fail
        refine (times_any m a a _ hm hm2 x0 x1 x0 x1).mono ?_
        rintro e w1 ⟨rfl, rfl⟩
        go_wp2
        go_round
        case rel =>
          refine ⟨z, a * a % m, k / 2, rfl, rfl, by go_num, z0, z1, r0, r1, by omega, ?_⟩
          show _ = _
          rw [HA.out z, ← HP.out]
          exact H.out
        case measure => simp [intOf]; omega
      · have c1 : ((k % 2 : Nat) : Int) = 1 := by omega
        have HP : Hid (k = 2 * (k / 2) + 1) := by show _ = _; omega
        go_wp2_with fail
        refine (times_any m z a _ hm hm2 z0 z1 x0 x1).mono ?_
        rintro e w1 ⟨rfl, rfl⟩
        go_wp2_with fail
        refine (times_any m a a _ hm hm2 x0 x1 x0 x1).mono ?_
        rintro e w1 ⟨rfl, rfl⟩
        go_wp2
        go_round
        case rel =>
          refine ⟨z * a % m, a * a % m, k / 2, rfl, rfl, by go_num, s0, s1, r0, r1, by omega, ?_⟩
          show _ = _
          rw [HA.out, Int.mul_emod, Int.emod_emod, ← Int.mul_emod, Int.mul_assoc]
          rw [show a * a ^ (2 * (k / 2)) = a ^ k from by rw [show k = 2 * (k / 2) + 1 from HP.out, Int.pow_succ, Int.mul_comm]; congr 2; omega]
          exact H.out
        case measure => simp [intOf]; omega
set_option maxHeartbeats 2000000 in
/-- (upoly.prime).inverse. -/
theorem inverse_any (m : Nat) (A : Int) (w : World) (hm : 2 ≤ m) (hm2 : m ≤ 2147483647) (a0 : 0 ≤ A) (a1 : A < m) :
    Calls Tryz.prog 171 #[.int .u64 m, .int .u64 A] w fun e w' => e = .returned (.int .u64 (A ^ (m - 2) % m)) ∧ w = w' := by
  have e : (m : Int) - 2 = ((m - 2 : Nat) : Int) := by omega
  have v : IntKind.u64.wrap ((m - 2 : Nat) : Int) = ((m - 2 : Nat) : Int) := by rw [IntKind.wrap_u64]; omega
  go_enter Tryz.func171, Tryz.ntmps171
  go_wp2_with fail
  refine (power_any m A (m - 2) _ (by omega) (by omega) a0 a1 (by omega)).mono ?_
  rintro e w1 ⟨rfl, rfl⟩
  go_wp2
  go_ret
  exact ⟨rfl, rfl⟩
set_option maxHeartbeats 2000000 in
/-- (upoly.prime).of. -/
theorem of_ev {w : World} {K : Nat} {z : Int} {e : Ent} (h : EV w K z e) (m : Int) (hm : 2 ≤ m) (hm2 : m ≤ 2147483647) :
    Calls Tryz.prog 141 #[.int .u64 m, .agg #[.bool e.s, .slice e.p e.n e.c]] w fun r w' => r = .returned (.int .u64 (z % m)) ∧ Below w.heap.size w w' := by
  obtain ⟨xs, h1, h2, h3⟩ := h
  obtain ⟨es, ep, en, ec⟩ := e
  simp only at h1 h2 h3 ⊢
  have v1 : IntKind.i64.wrap m = m := by rw [IntKind.wrap_i64]; omega
  have q0 := Int.emod_nonneg z (show m ≠ 0 by omega)
  have q1 := Int.emod_lt_of_pos z (show 0 < m by omega)
  have v2 : IntKind.u64.wrap (z % m) = z % m := by rw [IntKind.wrap_u64]; omega
  have HV : Hid (ival es xs = z) := h2
  clear h2
  go_enter Tryz.func141, Tryz.ntmps141
  go_wp2_with fail
  have hW0 := bel_al (o := .cells #[.bool es, .slice ep en ec] 58) (Below.refl w.heap.size w)
  have hm := Mod_any es ep en ec xs m _ (h1.below hW0) (by omega) hm2
  rw [HV.out] at hm
  refine hm.mono ?_
  rintro e w1 ⟨rfl, hb1⟩
  clear hm
  go_wp2
  go_ret
  exact ⟨rfl, bnext' hW0 hb1⟩
end Go.Proofs.YtlhgpejapmpcmaaGreatDoor
/-
  upoly: lists of residues: trimResidues, residues, scaled.
-/
namespace Go.Proofs.YtlhgpejapmpcmaaGreatDoor
open Go.RowKit
set_option linter.unusedVariables false
set_option linter.unusedSimpArgs false

theorem info_u64 : (Tryz.prog.info? 132).map (fun i => (i.zero, i.size, i.bytes)) = some (some (.int .u64 0), 1, 8) := by kernel_rfl
theorem mk_u64 (n : Nat) (h : n ≤ 1000000000) (w : World) : (Instr.makeSlice 174 (.int .i64 n) (.int .i64 n)).run Tryz.prog w =
    .ok (.slice (some ⟨w.heap.size, 0, none⟩) n n) (w.alloc (.cells (ca .u64 (zeros n)) 132)) := by
  have hi := info_u64
  cases hq : Tryz.prog.info? 132 with
  | none => rw [hq] at hi; cases hi
  | some i =>
    rw [hq] at hi
    simp only [Option.map_some, Option.some.injEq, Prod.mk.injEq] at hi
    obtain ⟨h1, h2, h3⟩ := hi
    have hr := run_make (P := Tryz.prog) w 174 132 i (.int .u64 0) Tryz.underlying174 hq h1 .i64 .i64 n n (by omega) (Int.le_refl _) (by rw [h3]; omega) (by omega)
    rw [Int.toNat_natCast, h2] at hr
    rw [hr]
    exact congrArg (fun c => Result.ok (Value.slice (some ⟨w.heap.size, 0, none⟩) n n) (w.alloc (.cells c 132))) (made_zeros .u64 n)
set_option maxHeartbeats 400000 in
/-- upoly.trimResidues. -/
theorem trimRes_any (p : Option Addr) (len cap : Nat) (xs : List Int) (w : World) (hl : xs.length = len) (hc : len ≤ cap) (hm : cap ≤ 1000000) (hx : Rd w p .u64 xs) :
    Calls Tryz.prog 173 #[.slice p len cap] w fun e w' => e = .returned (.slice p (tlen xs) cap) ∧ w = w' := by
  go_enter Tryz.func173, Tryz.ntmps173
  go_wp2
  go_loop [3] (fun n => ∃ k : Nat, k ≤ len ∧ n = .int .i64 k ∧ Hid (∀ j, k ≤ j → gx xs j = 0)) (fun n => (intOf n).toNat)
  case atStart => exact ⟨len, Nat.le_refl _, rfl, gx_past xs len (by omega)⟩
  case round =>
    obtain ⟨k, hk, rfl, hz⟩ := hrel
    by_cases h0 : k = 0
    · subst h0
      go_wp2
      go_ret
      rw [tlen_eq xs 0 hz.out (.inl rfl)]
      exact ⟨rfl, rfl⟩
    · obtain ⟨m, rfl⟩ : ∃ m, k = m + 1 := ⟨k - 1, by omega⟩
      obtain ⟨b, off, rfl, hcell⟩ := hx (by omega)
      have hcm := hcell m (by omega)
      clear hcell
      by_cases h1 : gx xs m = 0
      · have h2 : (gx xs m == 0) = true := by simp only [h1]; rfl
        go_wp2
        go_round
        case rel => exact ⟨m, by omega, by go_num, fun j hj => by
          rcases Nat.lt_or_ge m j with h | h
          · exact hz.out j h
          · have : j = m := by omega
            subst this; exact h1⟩
        case measure => simp [intOf]
      · have h2 : (gx xs m == 0) = false := by simpa using h1
        go_wp2
        go_ret
        rw [tlen_eq xs (m + 1) hz.out (.inr h1)]
        exact ⟨rfl, rfl⟩
theorem gx_map0 (f : Int → Int) (h0 : f 0 = 0) (xs : List Int) (j : Nat) : gx (xs.map f) j = f (gx xs j) := by
  unfold gx
  rw [List.getD_eq_getElem?_getD, List.getD_eq_getElem?_getD, List.getElem?_map]
  cases h : xs[j]? with
  | none => simp [h0]
  | some v => simp
/-- A list of n, of which k entries are laid. -/
def part (xs : List Int) (n k : Nat) : List Int := xs.take k ++ zeros (n - k)
theorem length_part (xs : List Int) (n k : Nat) (h : xs.length = n) (hk : k ≤ n) : (part xs n k).length = n := by simp [part, zeros]; omega
theorem part_zero (xs : List Int) (n : Nat) : part xs n 0 = zeros n := by simp [part]
theorem part_all (xs : List Int) (n : Nat) (h : xs.length = n) : part xs n n = xs := by simp [part, zeros, List.take_of_length_le, h]
theorem part_set (xs : List Int) (n k : Nat) (h : xs.length = n) (hk : k < n) : (part xs n k).set k (gx xs k) = part xs n (k + 1) := by
  have e : n - k = (n - (k + 1)) + 1 := by omega
  have hl : (xs.take k).length = k := by simp; omega
  unfold part
  rw [e, List.set_append_right _ _ (by omega), hl, Nat.sub_self]
  unfold zeros
  rw [List.replicate_succ, List.set_cons_zero, gx_mem xs k (by omega), ← List.take_append_getElem (show k < xs.length by omega)]
  simp only [List.append_assoc, List.singleton_append]
set_option maxHeartbeats 2000000 in
/-- (upoly.prime).residues. -/
theorem residues_any {w : World} {K : Nat} {p : Option Addr} {n nc : Nat} {es : List Ent} {zs : List Int} (h : PA w K p n nc es zs) (hn : n ≤ 100000) (m : Int) (hm : 2 ≤ m) (hm2 : m ≤ 2147483647) :
    Calls Tryz.prog 143 #[.int .u64 m, .slice p n nc] w fun e w' => e = .returned (.slice (some ⟨w.heap.size, 0, none⟩) (tlen (zs.map (· % m))) n) ∧ Row w' w.heap.size 132 .u64 (zs.map (· % m)) ∧ Below w.heap.size w w' := by
  have hmk := mk_u64 n (by omega)
  have hle := h.el
  have hzl := h.zl
  generalize hr : zs.map (· % m) = rs
  have HR : Hid (∀ j, gx rs j = gx zs j % m) := fun j => by rw [← hr]; exact gx_map0 (· % m) (by simp) zs j
  have hrl : rs.length = n := by rw [← hr]; simp; omega
  clear hr
  go_enter Tryz.func143, Tryz.ntmps143
  go_wp2_with fail
  have hR0 := Row.new w 132 .u64 (zeros n)
  have hW0 : Below w.heap.size w (w.alloc (.cells (ca .u64 (zeros n)) 132)) := (Below.refl _ _).alloc (Nat.le_refl _) _
  generalize w.alloc (.cells (ca .u64 (zeros n)) 132) = W0 at *
  clear hmk
  go_loopw [6, 7, 13] (fun iv cv kv wr => ∃ k : Nat, k ≤ n ∧ kv = .int .i64 k ∧ Hid (Row wr w.heap.size 132 .u64 (part rs n k) ∧ Below w.heap.size w wr)) (fun _ _ kv _ => n - (intOf kv).toNat)
  case atStart => exact ⟨0, Nat.zero_le _, by go_num, by rw [part_zero]; exact hR0, hW0⟩
  case round =>
    obtain ⟨k, hk, rfl, H⟩ := hrel
    rcases Nat.lt_or_ge k n with hlt | hge
    · obtain ⟨hR, hB⟩ := H.out
      have hPA := h.below hB
      obtain ⟨b, o, hp, hc⟩ := hPA.pl (by omega)
      subst hp
      obtain ⟨c0, c1⟩ := hc k (by omega)
      have hv := hPA.ev k hlt
      have hsR := hR.lt
      have HH : Hid (Row wr w.heap.size 132 .u64 (part rs n k) ∧ Below w.heap.size w wr) := H.out
      clear H hR hB hc hPA
      go_wp2_with fail
      have hal := bel_al (o := .cells #[.bool (ge es k).s, .slice (ge es k).p (ge es k).n (ge es k).c] 58) (Below.refl wr.heap.size wr)
      refine (of_ev (hv.below hal) m hm hm2).mono ?_
      rintro e w1 ⟨rfl, hb1⟩
      obtain ⟨hR, hB⟩ := HH.out
      have hb2 := bnext' hal hb1
      have hR1 := hR.below hb2 hsR
      have d0 := hR1.cell k (by rw [length_part rs n k hrl hk]; exact hlt)
      have f0 := hR1.frozen k
      have hB1 := bnext' hB hb2
      have hxk := HR.out k
      have hxk' : gx zs k % m = gx rs k := hxk.symm
      have HI : Hid (Row w1 w.heap.size 132 .u64 (part rs n k) ∧ Below w.heap.size w w1) := ⟨hR1, hB1⟩
      clear hR hB hb2 hR1 hB1 hal hb1 hv c0 c1 HH hxk
      go_wp2
      go_roundw
      case rel =>
        obtain ⟨hR, hB⟩ := HI.out
        refine ⟨k + 1, by omega, by go_num, ?_, hB.setCell (p := ⟨w.heap.size, k, none⟩) (Nat.le_refl _) _⟩
        rw [← part_set rs n k hrl hlt]
        exact hR.set k _
      case measure => simp [intOf]; omega
    · obtain rfl : k = n := by omega
      obtain ⟨hR, hB⟩ := H.out
      rw [part_all rs k hrl] at hR
      have HI : Hid (Row wr w.heap.size 132 .u64 rs ∧ Below w.heap.size w wr) := ⟨hR, hB⟩
      clear H hR hB hge hk
      go_wp2_with fail
      refine (trimRes_any _ _ _ rs wr hrl (Nat.le_refl _) (by omega) HI.out.1.rd_all).mono ?_
      rintro e w1 ⟨rfl, rfl⟩
      go_wp2
      go_ret
      exact ⟨rfl, HI.out⟩
set_option maxHeartbeats 2000000 in
/-- (upoly.prime).scaled. -/
theorem scaled_any (q : Option Addr) (n nc : Nat) (xs : List Int) (m c : Int) (w : World) (hl : xs.length = n) (hn : n ≤ 100000) (hX : Rd w q .u64 xs) (hx : ∀ j, 0 ≤ gx xs j ∧ gx xs j < m) (hm : 2 ≤ m) (hm2 : m ≤ 2147483647) (c0 : 0 ≤ c) (c1 : c < m) :
    Calls Tryz.prog 148 #[.int .u64 m, .slice q n nc, .int .u64 c] w fun e w' => e = .returned (.slice (some ⟨w.heap.size, 0, none⟩) n n) ∧ Row w' w.heap.size 132 .u64 (xs.map (· * c % m)) ∧ Below w.heap.size w w' := by
  have hmk := mk_u64 n (by omega)
  generalize hr : xs.map (· * c % m) = rs
  have HR : Hid (∀ j, gx rs j = gx xs j * c % m) := fun j => by rw [← hr]; exact gx_map0 (· * c % m) (by simp) xs j
  have hrl : rs.length = n := by rw [← hr]; simp; omega
  have HX : Hid (Rd w q .u64 xs ∧ ∀ j, 0 ≤ gx xs j ∧ gx xs j < m) := ⟨hX, hx⟩
  clear hr hX hx
  go_enter Tryz.func148, Tryz.ntmps148
  go_wp2_with fail
  have hR0 := Row.new w 132 .u64 (zeros n)
  have hW0 : Below w.heap.size w (w.alloc (.cells (ca .u64 (zeros n)) 132)) := (Below.refl _ _).alloc (Nat.le_refl _) _
  generalize w.alloc (.cells (ca .u64 (zeros n)) 132) = W0 at *
  clear hmk
  go_loopw [8, 9, 15] (fun iv cv kv wr => ∃ k : Nat, k ≤ n ∧ kv = .int .i64 k ∧ Hid (Row wr w.heap.size 132 .u64 (part rs n k) ∧ Below w.heap.size w wr)) (fun _ _ kv _ => n - (intOf kv).toNat)
  case atStart => exact ⟨0, Nat.zero_le _, by go_num, by rw [part_zero]; exact hR0, hW0⟩
  case round =>
    obtain ⟨k, hk, rfl, H⟩ := hrel
    rcases Nat.lt_or_ge k n with hlt | hge
    · obtain ⟨hR, hB⟩ := H.out
      obtain ⟨b, o, hp, hc⟩ := (HX.out.1.below hB) (by omega)
      subst hp
      have e0 := hc k (by omega)
      obtain ⟨x0, x1⟩ := HX.out.2 k
      have HH : Hid (Row wr w.heap.size 132 .u64 (part rs n k) ∧ Below w.heap.size w wr) := H.out
      clear H hR hB hc
      go_wp2_with fail
      refine (times_any m (gx xs k) c _ hm hm2 x0 x1 c0 c1).mono ?_
      rintro e w1 ⟨rfl, rfl⟩
      obtain ⟨hR, hB⟩ := HH.out
      have d0 := hR.cell k (by rw [length_part rs n k hrl hk]; exact hlt)
      have f0 := hR.frozen k
      have hxk := HR.out k
      have hxk' : gx xs k * c % m = gx rs k := hxk.symm
      clear hR hB hxk e0
      go_wp2
      go_roundw
      case rel =>
        obtain ⟨hR, hB⟩ := HH.out
        refine ⟨k + 1, by omega, by go_num, ?_, hB.setCell (p := ⟨w.heap.size, k, none⟩) (Nat.le_refl _) _⟩
        rw [← part_set rs n k hrl hlt]
        exact hR.set k _
      case measure => simp [intOf]; omega
    · obtain rfl : k = n := by omega
      obtain ⟨hR, hB⟩ := H.out
      rw [part_all rs k hrl] at hR
      have HI : Hid (Row wr w.heap.size 132 .u64 rs ∧ Below w.heap.size w wr) := ⟨hR, hB⟩
      clear H hR hB hge hk
      go_wp2
      go_ret
      exact ⟨rfl, HI.out⟩
end Go.Proofs.YtlhgpejapmpcmaaGreatDoor
