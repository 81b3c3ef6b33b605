/-
  ashlarref1.cmp.
-/
import Derived.Test.YtgdbhgpabehcfaaDoorRf
namespace Go.Proofs.YtgdbhgpabehcfaaDoor
open Go.RowKit
set_option linter.unusedVariables false
set_option linter.unusedSimpArgs false

set_option maxHeartbeats 1000000 in
/-- ashlarref1.cmp. -/
theorem rcmp_any (p q : Option Addr) (n nc m mc : Nat) (xs ys : List Int) (w : World) (hn : xs.length = n) (hm : ys.length = m) (hnb : n ≤ 1000000000) (hmb : m ≤ 1000000000) (tx : tlen xs = n) (ty : tlen ys = m)
    (hX : Rd w p .i64 xs) (hXu : U16 xs) (hY : Rd w q .i64 ys) (hYu : U16 ys) :
    Calls Tryd.prog 81 #[.slice p n nc, .slice q m mc] w fun e w' => e = .returned (.int .i64 (icmp (vd xs) (vd ys))) ∧ Below w.heap.size w w' := by
  by_cases hne : n = m
  · subst hne
    have hb : ((n : Int) != (n : Int)) = false := by simp
    go_enter Tryd.func81, Tryd.ntmps81
    go_wp2_with fail
    go_loopw [5] (fun iv wr => ∃ k : Nat, k ≤ n ∧ iv = .int .i64 ((k : Int) - 1) ∧ Hid (xs.drop k = ys.drop k ∧ Below w.heap.size w wr)) (fun iv _ => (intOf iv + 1).toNat)
    case atStart =>
      refine ⟨n, Nat.le_refl _, by go_num, ?_, Below.refl _ _⟩
      rw [List.drop_of_length_le (by omega), List.drop_of_length_le (by omega)]
    case round =>
      obtain ⟨k, hk, rfl, H⟩ := hrel
      by_cases h0 : k = 0
      · subst h0
        go_wp2
        go_ret
        obtain ⟨hd, hb⟩ := H.out
        rw [List.drop_zero, List.drop_zero] at hd
        rw [hd, icmp_eq]
        exact ⟨rfl, hb⟩
      · obtain ⟨j, rfl⟩ : ∃ j, k = j + 1 := ⟨k - 1, by omega⟩
        have ej : ((j + 1 : Nat) : Int) - 1 = (j : Int) := by omega
        rw [ej]
        clear ej
        obtain ⟨hd, hb⟩ := H.out
        obtain ⟨b1, o1, rfl, hc1⟩ := (hX.below hb) (by omega)
        obtain ⟨b2, o2, rfl, hc2⟩ := (hY.below hb) (by omega)
        have g1 := hc1 j (by omega)
        have g2 := hc2 j (by omega)
        clear hc1 hc2 hd hb
        rcases Int.lt_trichotomy (gx xs j) (gx ys j) with hc | hc | hc
        · go_wp2
          go_quiet (fail)
          have hB := below_drewN H.out.2 nq
          generalize wr.drewN nq = wq at *
          go_wp2
          go_ret
          obtain ⟨hd, hb⟩ := H.out
          rw [icmp_lt (vd_lt_at hXu hYu j (by omega) (by omega) hd hc)]
          exact ⟨rfl, hB⟩
        · have hc1 : ¬ gx xs j < gx ys j := by omega
          have hc2 : ¬ gx ys j < gx xs j := by omega
          have HC : Hid (gx xs j = gx ys j) := hc
          clear hc
          go_wp2
          go_quiet (fail)
          have hB := below_drewN H.out.2 nq
          have e1 : (wr.drewN nq).cell? ⟨b1, o1 + j, none⟩ = some (.int .i64 (gx xs j)) := g1
          have e2 : (wr.drewN nq).cell? ⟨b2, o2 + j, none⟩ = some (.int .i64 (gx ys j)) := g2
          generalize wr.drewN nq = wq at *
          go_wp2
          go_quiet (fail)
          go_wp2
          obtain ⟨hd, hb⟩ := H.out
          refine ⟨⟨j, by omega, by go_num, drop_step j (by omega) (by omega) hd HC.out, below_drewN hB _⟩, by simp [intOf]⟩
        · have hc1 : ¬ gx xs j < gx ys j := by omega
          go_wp2
          go_quiet (fail)
          have hB := below_drewN H.out.2 nq
          have e1 : (wr.drewN nq).cell? ⟨b1, o1 + j, none⟩ = some (.int .i64 (gx xs j)) := g1
          have e2 : (wr.drewN nq).cell? ⟨b2, o2 + j, none⟩ = some (.int .i64 (gx ys j)) := g2
          generalize wr.drewN nq = wq at *
          go_wp2
          go_quiet (fail)
          go_wp2
          go_ret
          obtain ⟨hd, hb⟩ := H.out
          rw [icmp_gt (vd_lt_at hYu hXu j (by omega) (by omega) hd.symm hc)]
          exact ⟨rfl, below_drewN hB _⟩
  · have hb : ((n : Int) != (m : Int)) = true := by rw [bne_iff_ne]; omega
    rcases Nat.lt_or_ge n m with h | h
    · have h1 : (n : Int) < (m : Int) := by omega
      go_enter Tryd.func81, Tryd.ntmps81
      go_wp2
      go_ret
      rw [icmp_lt (vd_lt_len hXu hYu (by omega))]
      exact ⟨rfl, Below.refl _ _⟩
    · have h1 : ¬ (n : Int) < (m : Int) := by omega
      go_enter Tryd.func81, Tryd.ntmps81
      go_wp2
      go_ret
      rw [icmp_gt (vd_lt_len hYu hXu (by omega))]
      exact ⟨rfl, Below.refl _ _⟩
end Go.Proofs.YtgdbhgpabehcfaaDoor
