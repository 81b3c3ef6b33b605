/-
  limbs: the order of sizes and of numbers.
-/
import Derived.Test.YtebdbfbicbndlaaGreatDoorWd
namespace Go.Proofs.YtebdbfbicbndlaaGreatDoor
open Go.RowKit
set_option linter.unusedVariables false
set_option linter.unusedSimpArgs false

theorem ret_int {k : IntKind} {a b : Int} (h : a = b) : Ending.returned (.int k a) = .returned (.int k b) := by rw [h]
theorem flip_same {P : Program} {f : FuncId} {args : Array Value} {w : World} {v : Value} (h : Calls P f args w fun e w' => e = .returned v ∧ w = w') :
    Calls P f args w fun e w' => e = .returned v ∧ w' = w := h.mono fun _ _ ⟨a, b⟩ => ⟨a, b.symm⟩

set_option maxHeartbeats 1000000 in
/-- limbs.compare. -/
theorem compare_any (p q : Option Addr) (n nc m mc : Nat) (xs ys : List Int) (w : World) (hn : xs.length = n) (hm : ys.length = m) (hnc : n ≤ nc) (hnc' : nc ≤ maxLen) (hmc : m ≤ mc) (hmc' : mc ≤ maxLen)
    (hX : Rd w p .u32 xs) (hXu : U32 xs) (hY : Rd w q .u32 ys) (hYu : U32 ys) :
    Calls Tryz.prog 73 #[.slice p n nc, .slice q m mc] w fun e w' => e = .returned (.int .i64 (icmp (val xs) (val ys))) ∧ Below w.heap.size w w' := by
  have tx := tlen_le xs
  have ty := tlen_le ys
  have hnc2 := hnc'
  have hmc2 := hmc'
  unfold maxLen at hnc2 hmc2
  by_cases hne : tlen xs = tlen ys
  · have hb : (((tlen xs : Nat) : Int) != ((tlen ys : Nat) : Int)) = false := by simp [hne]
    go_enter Tryz.func73, Tryz.ntmps73
    go_wp2_with fail
    refine (trim_any p n nc xs _ hn hnc hnc' hX).mono ?_
    rintro e w' ⟨rfl, rfl⟩
    go_wp2_with fail
    refine (trim_any q m mc ys _ hm hmc hmc' hY).mono ?_
    rintro e w' ⟨rfl, rfl⟩
    have H1 : Hid (tlen xs = tlen ys) := hne
    clear hne
    go_wp2_with fail
    go_loopw [5] (fun iv wr => ∃ k : Nat, k ≤ tlen ys ∧ iv = .int .i64 ((k : Int) - 1) ∧ Hid ((tr xs).drop k = (tr ys).drop k ∧ Below w.heap.size w wr)) (fun iv _ => (intOf iv + 1).toNat)
    case atStart =>
      refine ⟨tlen ys, Nat.le_refl _, by go_num, ?_, Below.refl _ _⟩
      rw [List.drop_of_length_le (by rw [length_tr]; have := H1.out; omega), List.drop_of_length_le (by rw [length_tr]; omega)]
    case round =>
      obtain ⟨k, hk, rfl, H⟩ := hrel
      by_cases h0 : k = 0
      · subst h0
        go_wp2
        go_ret
        obtain ⟨hd, hb⟩ := H.out
        rw [List.drop_zero, List.drop_zero] at hd
        rw [← val_tr xs, hd, val_tr, icmp_eq]
        exact ⟨rfl, hb⟩
      · obtain ⟨j, rfl⟩ : ∃ j, k = j + 1 := ⟨k - 1, by omega⟩
        have ej : ((j + 1 : Nat) : Int) - 1 = (j : Int) := by omega
        rw [ej]
        clear ej
        obtain ⟨hd, hb⟩ := H.out
        have hl := H1.out
        obtain ⟨b1, o1, rfl, hc1⟩ := (hX.tr.below hb) (by rw [length_tr]; omega)
        obtain ⟨b2, o2, rfl, hc2⟩ := (hY.tr.below hb) (by rw [length_tr]; omega)
        have g1 := hc1 j (by rw [length_tr]; omega)
        have g2 := hc2 j (by rw [length_tr]; omega)
        clear hc1 hc2 hd hb hl
        rcases Int.lt_trichotomy (gx (tr xs) j) (gx (tr ys) j) with hc | hc | hc
        · have hq : (gx (tr xs) j != gx (tr ys) j) = true := by rw [bne_iff_ne]; omega
          go_wp2
          go_quiet (fail)
          have hB := below_drewN H.out.2 nq
          have e1 : (wr.drewN nq).cell? ⟨b1, o1 + j, none⟩ = some (.int .u32 (gx (tr xs) j)) := g1
          have e2 : (wr.drewN nq).cell? ⟨b2, o2 + j, none⟩ = some (.int .u32 (gx (tr ys) j)) := g2
          generalize wr.drewN nq = wq at *
          go_wp2
          go_big_quiet ((go_at_call 101; exact Calls.quiet_of_same (flip_same (compareLimb_any _ _ _))))
          go_wp2
          go_ret
          obtain ⟨hd, hb⟩ := H.out
          have hl := H1.out
          have hv := val_lt_at (u32_tr hXu) (u32_tr hYu) j (by rw [length_tr]; omega) (by rw [length_tr]; omega) hd hc
          rw [val_tr, val_tr] at hv
          rw [icmp_lt hv]
          exact ⟨ret_int (icmp_lt hc), below_drewN hB _⟩
        · have hq : (gx (tr xs) j != gx (tr ys) j) = false := by rw [hc]; simp
          have HC : Hid (gx (tr xs) j = gx (tr ys) j) := hc
          clear hc
          go_wp2
          go_quiet (fail)
          go_wp2
          refine ⟨⟨j, by omega, by go_num, ?_, below_drewN H.out.2 _⟩, by simp [intOf]⟩
          exact drop_step j (by rw [length_tr]; have := H1.out; omega) (by rw [length_tr]; omega) H.out.1 HC.out
        · have hq : (gx (tr xs) j != gx (tr ys) j) = true := by rw [bne_iff_ne]; omega
          go_wp2
          go_quiet (fail)
          have hB := below_drewN H.out.2 nq
          have e1 : (wr.drewN nq).cell? ⟨b1, o1 + j, none⟩ = some (.int .u32 (gx (tr xs) j)) := g1
          have e2 : (wr.drewN nq).cell? ⟨b2, o2 + j, none⟩ = some (.int .u32 (gx (tr ys) j)) := g2
          generalize wr.drewN nq = wq at *
          go_wp2
          go_big_quiet ((go_at_call 101; exact Calls.quiet_of_same (flip_same (compareLimb_any _ _ _))))
          go_wp2
          go_ret
          obtain ⟨hd, hb⟩ := H.out
          have hl := H1.out
          have hv := val_lt_at (u32_tr hYu) (u32_tr hXu) j (by rw [length_tr]; omega) (by rw [length_tr]; omega) hd.symm hc
          rw [val_tr, val_tr] at hv
          rw [icmp_gt hv]
          exact ⟨ret_int (icmp_gt hc), below_drewN hB _⟩
  · have hb : (((tlen xs : Nat) : Int) != ((tlen ys : Nat) : Int)) = true := by rw [bne_iff_ne]; omega
    go_enter Tryz.func73, Tryz.ntmps73
    go_wp2_with fail
    refine (trim_any p n nc xs _ hn hnc hnc' hX).mono ?_
    rintro e w' ⟨rfl, rfl⟩
    go_wp2_with fail
    refine (trim_any q m mc ys _ hm hmc hmc' hY).mono ?_
    rintro e w' ⟨rfl, rfl⟩
    go_wp2_with fail
    refine (compareInt_any _ _ _).mono ?_
    rintro e w' ⟨rfl, rfl⟩
    go_wp2
    go_ret
    refine ⟨ret_int ?_, Below.refl _ _⟩
    rcases Nat.lt_or_gt_of_ne hne with h | h
    · rw [icmp_lt (val_lt_len hXu hYu h), icmp_lt (by omega)]
    · rw [icmp_gt (val_lt_len hYu hXu h), icmp_gt (by omega)]
end Go.Proofs.YtebdbfbicbndlaaGreatDoor
