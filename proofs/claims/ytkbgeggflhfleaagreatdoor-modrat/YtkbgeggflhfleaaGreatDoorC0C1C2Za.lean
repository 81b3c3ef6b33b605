/-
  The runner's first known calls: residue.IsPrime of 7, 91 and 2^31 - 1 (they read the table of trailing zeros).
-/
import Derived.Test.YtkbgeggflhfleaaGreatDoorH2Pl
import Derived.Test.YtkbgeggflhfleaaGreatDoorM8
import Derived.Test.YtkbgeggflhfleaaGreatDoorProg
namespace Go.Proofs.YtkbgeggflhfleaaGreatDoor.Rs
open Go.RowKit Go.Proofs.YtkbgeggflhfleaaGreatDoor
set_option linter.unusedVariables false
set_option maxHeartbeats 8000000
theorem tz_to {w : World} (h : TzT w) : Ev.TZ w := fun g hg => by
  have h1 : Ev.tzB = some (renTz.g 1) := by kernel_rfl
  obtain rfl := Option.some.inj (h1.symm.trans hg)
  exact h
theorem tz_of {w : World} (h : Ev.TZ w) : TzT w := h _ (by kernel_rfl)
theorem ip_max : Cp.ip 2147483647 = true := by
  rw [← Cp.ipF_eq (by decide) (by decide)]
  decide +kernel
theorem isp7 : Mr.isp 7 = true := (Mr.isp_eq (by decide) (by decide)).2 (Mr.smalls_pr 7 (by decide))
theorem isp_max : Mr.isp 2147483647 = true := (Mr.isp_eq (by decide) (by decide)).2 (Mr.pr_of_ip (by decide) (by decide) (by decide) ip_max)
theorem isp91 : Mr.isp 91 = false := by
  cases h : Mr.isp 91 with
  | false => rfl
  | true =>
    have h1 := ((Mr.isp_eq (by decide) (by decide)).1 h).2 7 ⟨13, rfl⟩
    omega
theorem ent_ip {m : Nat} {b : Bool} (h1 : 2 ≤ m) (h2 : m ≤ 2147483647) (hb : Mr.isp m = b) : Ev.EntOK Tryz.prog 26 ⟨[.int .i64 (m : Int)], [], .bool b, []⟩ := by
  refine Ev.ent_call (by cases b <;> rfl) fun ρ w xs hT hx => ?_
  obtain ⟨xl⟩ := xs
  cases hx with
  | cons hv hn =>
    cases hn
    cases hv
    refine (isPrime_in m w h1 h2 (tz_of hT)).mono ?_
    rintro r w' ⟨rfl, rfl⟩
    exact ⟨.bool b, by rw [hb], .bool b, rfl⟩
noncomputable def tzTab : Ev.Tab := Ev.tabAdd (Ev.tabAdd (Ev.tabAdd .e 26 ⟨[.int .i64 (7 : Nat)], [], .bool true, []⟩) 26 ⟨[.int .i64 (91 : Nat)], [], .bool false, []⟩) 26 ⟨[.int .i64 (2147483647 : Nat)], [], .bool true, []⟩
theorem tzTab_ok : Ev.TabOK Tryz.prog tzTab :=
  Ev.tab_ent (Ev.tab_ent (Ev.tab_ent Ev.tab_nil (by kernel_rfl) (ent_ip (by decide) (by decide) isp7)) (by kernel_rfl) (ent_ip (by decide) (by decide) isp91)) (by kernel_rfl) (ent_ip (by decide) (by decide) isp_max)
end Go.Proofs.YtkbgeggflhfleaaGreatDoor.Rs
namespace Go.Proofs.YtkbgeggflhfleaaGreatDoor.begun
open Go.RowKit Go.Proofs.YtkbgeggflhfleaaGreatDoor
theorem nong : Ev.NoNG Tryz.prog := Ev.nong_of (by kernel_rfl)
theorem mix : Tryz.prog.follows .mixedOrders = true := by kernel_rfl
noncomputable def T0 : Ev.Tab := Rs.tzTab
theorem t0 : Ev.TabOK Tryz.prog T0 := Rs.tzTab_ok
def e1 : Ev.Ent := ⟨[.slice 0 0 2 (.more 0), .func (.func 31) [] []], [⟨[.bool false, .nilSlice, .bool false, .slice 1 0 1 (.more 0), .bool false, .slice 2 0 1 (.more 0), .bool false, .slice 3 0 1 (.more 0)], 32, some 4, none⟩, ⟨[.int .u32 (.ofNat 1)], 134, some 1, none⟩, ⟨[.int .u32 (.ofNat 1)], 134, some 1, none⟩, ⟨[.int .u32 (.ofNat 1)], 134, some 1, none⟩], .slice 4 0 2 (.known 2), [⟨[.bool false, .nilSlice, .bool false, .slice 5 0 1 (.known 1), .bool false, .slice 6 0 1 (.known 1), .bool false, .slice 7 0 1 (.known 1)], 32, none, none⟩, ⟨[.int .u32 (.ofNat 1)], 134, none, none⟩, ⟨[.int .u32 (.ofNat 1)], 134, none, none⟩, ⟨[.int .u32 (.ofNat 1)], 134, none, none⟩]⟩
noncomputable def T1 : Ev.Tab := Ev.tabAdd T0 84 e1
theorem t1 : Ev.TabOK Tryz.prog T1 := Ev.tab_add nong mix t0 (n := 100000) (by kernel_rfl) (by kernel_rfl)
def e2 : Ev.Ent := ⟨[.slice 0 0 2 (.known 2)], [⟨[.bool false, .nilSlice, .bool false, .slice 1 0 1 (.known 1), .bool false, .slice 2 0 1 (.known 1), .bool false, .slice 3 0 1 (.known 1)], 32, none, none⟩, ⟨[.int .u32 (.ofNat 1)], 134, none, none⟩, ⟨[.int .u32 (.ofNat 1)], 134, none, none⟩, ⟨[.int .u32 (.ofNat 1)], 134, none, none⟩], .agg [.int .i64 (.ofNat 2), .int .i64 (.ofNat 2)], []⟩
noncomputable def T2 : Ev.Tab := Ev.tabAdd T1 81 e2
theorem t2 : Ev.TabOK Tryz.prog T2 := Ev.tab_add nong mix t1 (n := 100000) (by kernel_rfl) (by kernel_rfl)
def e3 : Ev.Ent := ⟨[.agg [.slice 0 0 3 (.known 3), .slice 1 0 2 (.known 2)]], [⟨[.slice 2 0 1 (.known 1), .slice 3 0 1 (.known 1), .slice 4 0 1 (.known 1)], 154, none, none⟩, ⟨[.bool false, .nilSlice, .bool false, .slice 5 0 1 (.known 1), .bool false, .slice 6 0 1 (.known 1), .bool false, .slice 7 0 1 (.known 1)], 32, none, none⟩, ⟨[.bool true, .slice 8 0 1 (.known 1)], 30, none, none⟩, ⟨[.bool true, .slice 9 0 1 (.known 1)], 30, none, none⟩, ⟨[.bool false, .slice 10 0 1 (.known 1)], 30, none, none⟩, ⟨[.int .u32 (.ofNat 1)], 134, none, none⟩, ⟨[.int .u32 (.ofNat 1)], 134, none, none⟩, ⟨[.int .u32 (.ofNat 1)], 134, none, none⟩, ⟨[.int .u32 (.ofNat 1)], 134, none, none⟩, ⟨[.int .u32 (.ofNat 1)], 134, none, none⟩, ⟨[.int .u32 (.ofNat 1), .int .u32 (.ofNat 0)], 134, none, none⟩], .bool false, []⟩
noncomputable def T3 : Ev.Tab := Ev.tabAdd T2 102 e3
theorem t3 : Ev.TabOK Tryz.prog T3 := Ev.tab_add nong mix t2 (n := 100000) (by kernel_rfl) (by kernel_rfl)
def e4 : Ev.Ent := ⟨[.agg [.int .u64 (.ofNat 131)], .slice 0 0 1 (.known 1)], [⟨[.bool false, .slice 1 0 1 (.known 1)], 30, none, none⟩, ⟨[.int .u32 (.ofNat 1), .int .u32 (.ofNat 0)], 134, none, none⟩], .tuple [.nilSlice, .bool true], []⟩
noncomputable def T4 : Ev.Tab := Ev.tabAdd T3 249 e4
theorem t4 : Ev.TabOK Tryz.prog T4 := Ev.tab_add nong mix t3 (n := 100000) (by kernel_rfl) (by kernel_rfl)
def e5 : Ev.Ent := ⟨[.slice 0 0 3 (.more 0), .slice 1 0 2 (.more 0)], [⟨[.slice 2 0 1 (.more 0), .slice 3 0 1 (.more 0), .slice 4 0 1 (.more 0)], 154, some 1, none⟩, ⟨[.bool false, .nilSlice, .bool false, .slice 5 0 1 (.more 0), .bool false, .slice 6 0 1 (.more 0), .bool false, .slice 7 0 1 (.more 0)], 32, some 4, none⟩, ⟨[.bool true, .slice 8 0 1 (.more 0)], 30, some 2, none⟩, ⟨[.bool true, .slice 9 0 1 (.more 0)], 30, some 2, none⟩, ⟨[.bool false, .slice 10 0 1 (.more 0)], 30, some 2, none⟩, ⟨[.int .u32 (.ofNat 1)], 134, some 1, none⟩, ⟨[.int .u32 (.ofNat 1)], 134, some 1, none⟩, ⟨[.int .u32 (.ofNat 1)], 134, some 1, none⟩, ⟨[.int .u32 (.ofNat 1)], 134, some 1, none⟩, ⟨[.int .u32 (.ofNat 1)], 134, some 1, none⟩, ⟨[.int .u32 (.ofNat 1)], 134, some 1, none⟩], .tuple [.ptr 11 0, .int .i64 (.ofNat 0)], [⟨[.slice 12 0 3 (.known 3), .slice 13 0 2 (.known 2), .nilSlice], 112, none, none⟩, ⟨[.slice 14 0 1 (.known 1), .slice 15 0 1 (.known 1), .slice 16 0 1 (.known 1)], 154, none, none⟩, ⟨[.bool false, .nilSlice, .bool false, .slice 17 0 1 (.known 1), .bool false, .slice 18 0 1 (.known 1), .bool false, .slice 19 0 1 (.known 1)], 32, none, none⟩, ⟨[.bool true, .slice 20 0 1 (.known 1)], 30, none, none⟩, ⟨[.bool true, .slice 21 0 1 (.known 1)], 30, none, none⟩, ⟨[.bool false, .slice 22 0 1 (.known 1)], 30, none, none⟩, ⟨[.int .u32 (.ofNat 1)], 134, none, none⟩, ⟨[.int .u32 (.ofNat 1)], 134, none, none⟩, ⟨[.int .u32 (.ofNat 1)], 134, none, none⟩, ⟨[.int .u32 (.ofNat 1)], 134, none, none⟩, ⟨[.int .u32 (.ofNat 1)], 134, none, none⟩, ⟨[.int .u32 (.ofNat 1), .int .u32 (.ofNat 0)], 134, none, none⟩]⟩
noncomputable def T5 : Ev.Tab := Ev.tabAdd T4 20 e5
theorem t5 : Ev.TabOK Tryz.prog T5 := Ev.tab_add nong mix t4 (n := 100000) (by kernel_rfl) (by kernel_rfl)
def e6 : Ev.Ent := ⟨[.slice 0 0 2 (.known 2)], [⟨[.bool false, .nilSlice, .bool false, .slice 1 0 1 (.known 1), .bool false, .slice 2 0 1 (.known 1), .bool false, .slice 3 0 1 (.known 1)], 32, none, none⟩, ⟨[.int .u32 (.ofNat 1), .int .u32 (.ofNat 0)], 134, none, none⟩, ⟨[.int .u32 (.ofNat 1), .int .u32 (.ofNat 0)], 134, none, none⟩, ⟨[.int .u32 (.ofNat 1), .int .u32 (.ofNat 0)], 134, none, none⟩], .agg [.int .i64 (.ofNat 2), .int .i64 (.ofNat 2)], []⟩
noncomputable def T6 : Ev.Tab := Ev.tabAdd T5 81 e6
theorem t6 : Ev.TabOK Tryz.prog T6 := Ev.tab_add nong mix t5 (n := 100000) (by kernel_rfl) (by kernel_rfl)
def e7 : Ev.Ent := ⟨[.ptr 0 0, .int .u64 (.ofNat 7)], [⟨[.slice 1 0 3 (.known 3), .slice 2 0 2 (.known 2), .nilSlice], 112, none, none⟩, ⟨[.slice 3 0 1 (.known 1), .slice 4 0 1 (.known 1), .slice 5 0 1 (.known 1)], 154, none, none⟩, ⟨[.bool false, .nilSlice, .bool false, .slice 6 0 1 (.known 1), .bool false, .slice 7 0 1 (.known 1), .bool false, .slice 8 0 1 (.known 1)], 32, none, none⟩, ⟨[.bool true, .slice 9 0 1 (.known 1)], 30, none, none⟩, ⟨[.bool true, .slice 10 0 1 (.known 1)], 30, none, none⟩, ⟨[.bool false, .slice 11 0 1 (.known 1)], 30, none, none⟩, ⟨[.int .u32 (.ofNat 1)], 134, none, none⟩, ⟨[.int .u32 (.ofNat 1)], 134, none, none⟩, ⟨[.int .u32 (.ofNat 1)], 134, none, none⟩, ⟨[.int .u32 (.ofNat 1)], 134, none, none⟩, ⟨[.int .u32 (.ofNat 1)], 134, none, none⟩, ⟨[.int .u32 (.ofNat 1), .int .u32 (.ofNat 0)], 134, none, none⟩], .tuple [.ptr 12 0, .int .i64 (.ofNat 0)], [⟨[.int .u64 (.ofNat 7), .slice 13 0 3 (.more 0), .slice 14 0 2 (.more 0)], 84, none, none⟩, ⟨[.slice 15 0 1 (.known 1), .slice 16 0 1 (.known 1), .slice 17 0 1 (.known 1)], 82, some 1, none⟩, ⟨[.int .u64 (.ofNat 0), .int .u64 (.ofNat 1)], 62, some 1, none⟩, ⟨[.int .u64 (.ofNat 6)], 62, none, none⟩, ⟨[.int .u64 (.ofNat 6)], 62, none, none⟩, ⟨[.int .u64 (.ofNat 1)], 62, none, none⟩]⟩
noncomputable def T7 : Ev.Tab := Ev.tabAdd T6 40 e7
theorem t7 : Ev.TabOK Tryz.prog T7 := Ev.tab_add nong mix t6 (n := 100000) (by kernel_rfl) (by kernel_rfl)
def e8 : Ev.Ent := ⟨[.ptr 0 0, .int .i64 (.ofNat 10), .int .i64 (.ofNat 7)], [⟨[.slice 1 0 3 (.known 3), .slice 2 0 2 (.known 2), .nilSlice], 112, none, none⟩, ⟨[.slice 3 0 1 (.known 1), .slice 4 0 1 (.known 1), .slice 5 0 1 (.known 1)], 154, none, none⟩, ⟨[.bool false, .nilSlice, .bool false, .slice 6 0 1 (.known 1), .bool false, .slice 7 0 1 (.known 1), .bool false, .slice 8 0 1 (.known 1)], 32, none, none⟩, ⟨[.bool true, .slice 9 0 1 (.known 1)], 30, none, none⟩, ⟨[.bool true, .slice 10 0 1 (.known 1)], 30, none, none⟩, ⟨[.bool false, .slice 11 0 1 (.known 1)], 30, none, none⟩, ⟨[.int .u32 (.ofNat 1)], 134, none, none⟩, ⟨[.int .u32 (.ofNat 1)], 134, none, none⟩, ⟨[.int .u32 (.ofNat 1)], 134, none, none⟩, ⟨[.int .u32 (.ofNat 1)], 134, none, none⟩, ⟨[.int .u32 (.ofNat 1)], 134, none, none⟩, ⟨[.int .u32 (.ofNat 1), .int .u32 (.ofNat 0)], 134, none, none⟩], .tuple [.int .i64 (.ofNat 6), .int .i64 (.ofNat 0)], []⟩
noncomputable def T8 : Ev.Tab := Ev.tabAdd T7 17 e8
theorem t8 : Ev.TabOK Tryz.prog T8 := Ev.tab_add nong mix t7 (n := 100000) (by kernel_rfl) (by kernel_rfl)
end Go.Proofs.YtkbgeggflhfleaaGreatDoor.begun
namespace Go.Proofs.YtkbgeggflhfleaaGreatDoor
open Go.RowKit
theorem begun14_any (w : World) (hT : Rs.TzT w) : Calls Tryz.prog 8 #[] w fun r w' => r = .returned (.bool true) ∧ Below w.heap.size w w' :=
  Ev.closed_callT begun.nong begun.mix begun.t8 (n := 100000) (by kernel_rfl) w (Rs.tz_to hT)
end Go.Proofs.YtkbgeggflhfleaaGreatDoor
namespace Go.Proofs.YtkbgeggflhfleaaGreatDoor.Rs
open Go.RowKit Go.Proofs.YtkbgeggflhfleaaGreatDoor
set_option linter.unusedVariables false
set_option linter.unusedSimpArgs false
def pz (z : Int) : Bool := decide (2 ≤ z ∧ z ≤ 2147483647) && Mr.isp z.toNat
theorem pz_in {m : Nat} (h1 : 2 ≤ m) (h2 : m ≤ 2147483647) : pz (m : Int) = Mr.isp m := by
  unfold pz
  rw [decide_eq_true (by omega), Bool.true_and]
  rfl
theorem pz_out {z : Int} (h : z < 2 ∨ 2147483647 < z) : pz z = false := by
  unfold pz
  rw [decide_eq_false (by omega), Bool.false_and]
theorem pz_true {z : Int} (h : pz z = true) : ∃ m : Nat, z = (m : Int) ∧ 2 ≤ m ∧ m ≤ 2147483647 ∧ Mr.Pr m := by
  unfold pz at h
  rw [Bool.and_eq_true, decide_eq_true_eq] at h
  exact ⟨z.toNat, by omega, by omega, by omega, (Mr.isp_eq (by omega) (by omega)).1 h.2⟩
theorem isPrime_all (z : Int) (w : World) (h0 : -9223372036854775808 ≤ z ∧ z ≤ 9223372036854775807) (hT : TzT w) :
    Calls Tryz.prog 26 #[.int .i64 z] w fun e w' => e = .returned (.bool (pz z)) ∧ w = w' := by
  by_cases h : z < 2 ∨ 2147483647 < z
  · rw [pz_out h]
    exact isPrime_out z w h0 h
  · obtain ⟨m, rfl⟩ : ∃ m : Nat, z = (m : Int) := ⟨z.toNat, by omega⟩
    rw [pz_in (by omega) (by omega)]
    exact isPrime_in m w (by omega) (by omega) hT
theorem mPrime_any (z : Int) (w : World) (h0 : -9223372036854775808 ≤ z ∧ z ≤ 9223372036854775807) (hT : TzT w) :
    Calls Tryz.prog 9 #[.int .i64 z] w fun e w' => e = .returned (.bool (pz z)) ∧ w = w' := by
  have hc := isPrime_all z w h0 hT
  generalize pz z = b at *
  go_enter Tryz.func9, Tryz.ntmps9
  go_wp2_with fail
  go_fit hc
  rintro e w1 ⟨rfl, rfl⟩
  go_wp2
  go_ret
  exact ⟨rfl, rfl⟩
theorem isp_false {m d : Nat} (h1 : 2 ≤ m) (h2 : m ≤ 2147483647) (hd : 2 ≤ d) (hdd : d * d ≤ m) (h : m % d = 0) : Mr.isp m = false := by
  cases hi : Mr.isp m with
  | false => rfl
  | true =>
    exfalso
    rcases ((Mr.isp_eq h1 h2).1 hi).2 d (Nat.dvd_of_mod_eq_zero h) with h3 | h3
    · omega
    · subst h3
      have := Nat.mul_le_mul hd (Nat.le_refl d)
      omega
theorem isp_true {m d : Nat} (h1 : 2 ≤ m) (h2 : m ≤ 2147483647) (hdd : m < d * d) (h : ∀ e, 2 ≤ e → e < d → m % e ≠ 0) : Mr.isp m = true := by
  refine (Mr.isp_eq h1 h2).2 ⟨by omega, fun e he => ?_⟩
  obtain ⟨f, rfl⟩ := he
  have e0 : e ≠ 0 := fun h => by rw [h, Nat.zero_mul] at h1; omega
  have f0 : f ≠ 0 := fun h => by rw [h, Nat.mul_zero] at h1; omega
  by_cases e1 : e = 1
  · exact .inl e1
  · by_cases f1 : f = 1
    · right; rw [f1, Nat.mul_one]
    · exfalso
      rcases Nat.lt_or_ge e d with h3 | h3
      · exact h e (by omega) h3 (Nat.mul_mod_right e f)
      · rcases Nat.lt_or_ge f d with h4 | h4
        · exact h f (by omega) h4 (Nat.mul_mod_left e f)
        · have := Nat.mul_le_mul h3 h4
          omega
theorem rPrime_in (m : Nat) (w : World) (h1 : 2 ≤ m) (h2 : m ≤ 2147483647) :
    Calls Tryz.prog 10 #[.int .i64 m] w fun e w' => e = .returned (.bool (Mr.isp m)) ∧ w = w' := by
  have g1 : ¬ (m : Int) < 2 := by omega
  have g2 : ¬ (2147483647 : Int) < (m : Int) := by omega
  go_enter Tryz.func10, Tryz.ntmps10
  go_wp2
  go_loop [3] (fun dv => ∃ d : Nat, dv = .int .i64 d ∧ 2 ≤ d ∧ d ≤ 46341 ∧ Hid (∀ e, 2 ≤ e → e < d → m % e ≠ 0)) (fun dv => 46342 - (intOf dv).toNat)
  case atStart => exact ⟨2, rfl, by omega, by omega, fun e he1 he2 => by omega⟩
  case round =>
    obtain ⟨d, rfl, hd2, hd3, H⟩ := hrel
    clear g1 g2
    have hdb := Nat.mul_le_mul hd3 hd3
    have eM : (d : Int) * (d : Int) = ((d * d : Nat) : Int) := by rw [Int.natCast_mul]
    have v1 : IntKind.i64.wrap ((d * d : Nat) : Int) = ((d * d : Nat) : Int) := by rw [IntKind.wrap_i64]; omega
    rcases Nat.lt_or_ge m (d * d) with hlt | hge
    · have c1 : ¬ ((d * d : Nat) : Int) ≤ (m : Int) := by omega
      have HI : Hid (Mr.isp m = true) := isp_true h1 h2 hlt H.out
      clear H hlt
      generalize d * d = q at *
      go_wp2
      go_ret
      exact ⟨by rw [HI.out]; rfl, rfl⟩
    · have c1 : ((d * d : Nat) : Int) ≤ (m : Int) := by omega
      have hd4 : d ≤ 46340 := by
        rcases Nat.lt_or_ge 46340 d with h | h
        · have := Nat.mul_le_mul h h
          omega
        · exact h
      have t1 : (m : Int).tmod (d : Int) = ((m % d : Nat) : Int) := by rw [Int.tmod_eq_emod_of_nonneg (by omega), Int.natCast_emod]
      have hmd : m % d < d := Nat.mod_lt _ (by omega)
      have v2 : IntKind.i64.wrap ((m % d : Nat) : Int) = ((m % d : Nat) : Int) := by rw [IntKind.wrap_i64]; omega
      have hd0 : ¬ (d : Int) = 0 := by omega
      have hd0' : ((d : Int) == 0) = false := by rw [beq_eq_false_iff_ne]; exact hd0
      by_cases hz : m % d = 0
      · have c2 : ((m % d : Nat) : Int) = 0 := by omega
        have HI : Hid (Mr.isp m = false) := isp_false h1 h2 hd2 hge hz
        clear H hge hz
        generalize d * d = q at *
        generalize m % d = r at *
        go_wp2
        go_ret
        exact ⟨by rw [HI.out]; rfl, rfl⟩
      · have c2 : ¬ ((m % d : Nat) : Int) = 0 := by omega
        have c3 : (((m % d : Nat) : Int) == 0) = false := by rw [beq_eq_false_iff_ne]; exact c2
        have HN : Hid (∀ e, 2 ≤ e → e < d + 1 → m % e ≠ 0) := fun e he1 he2 => by
          rcases Nat.lt_or_ge e d with h | h
          · exact H.out e he1 h
          · obtain rfl : e = d := by omega
            exact hz
        have v3 : IntKind.i64.wrap ((d : Int) + 1) = ((d + 1 : Nat) : Int) := by rw [IntKind.wrap_i64]; omega
        clear H hge hz
        generalize d * d = q at *
        generalize m % d = r at *
        go_wp2
        go_round
        case rel => exact ⟨d + 1, by go_num, by omega, by omega, HN.out⟩
        case measure => simp [intOf]; omega
theorem rPrime_any (z : Int) (w : World) (h0 : -9223372036854775808 ≤ z ∧ z ≤ 9223372036854775807) :
    Calls Tryz.prog 10 #[.int .i64 z] w fun e w' => e = .returned (.bool (pz z)) ∧ w = w' := by
  by_cases h : z < 2 ∨ 2147483647 < z
  · rw [pz_out h]
    by_cases g1 : z < 2
    · go_enter Tryz.func10, Tryz.ntmps10
      go_wp2
      go_ret
      exact ⟨rfl, rfl⟩
    · have g2 : (2147483647 : Int) < z := by omega
      go_enter Tryz.func10, Tryz.ntmps10
      go_wp2
      go_ret
      exact ⟨rfl, rfl⟩
  · obtain ⟨m, rfl⟩ : ∃ m : Nat, z = (m : Int) := ⟨z.toNat, by omega⟩
    rw [pz_in (by omega) (by omega)]
    exact rPrime_in m w (by omega) (by omega)
end Go.Proofs.YtkbgeggflhfleaaGreatDoor.Rs
namespace Go.Proofs.YtkbgeggflhfleaaGreatDoor
open Go.RowKit
theorem rat_low (a b : Int) (hb : b ≠ 0) : ∃ g : Int, g = (if b < 0 then -(Int.gcd a b : Int) else (Int.gcd a b : Int)) ∧ g ≠ 0 ∧ a = (Rat.divInt a b).num * g ∧ b = (Rat.divInt a b).den * g := by
  refine ⟨_, rfl, ?_, ?_, ?_⟩
  · have : Int.gcd a b ≠ 0 := by intro h; rw [Int.gcd_eq_zero_iff] at h; exact hb h.2
    split <;> omega
  · rw [Rat.num_divInt, Int.gcd_comm b a]
    have hd : ((Int.gcd a b : Nat) : Int) ∣ a := Int.gcd_dvd_left ..
    have h1 : b.sign * a / (Int.gcd a b : Int) * (Int.gcd a b : Int) = b.sign * a := Int.ediv_mul_cancel (Int.dvd_trans hd (Int.dvd_mul_left ..))
    split
    · rename_i h
      rw [Int.mul_neg, h1, Int.sign_eq_neg_one_of_neg h]
      omega
    · rename_i h
      rw [h1, Int.sign_eq_one_of_pos (by omega)]
      omega
  · rw [Rat.den_divInt, if_neg hb, Int.gcd_comm b a]
    have hd : Int.gcd a b ∣ b.natAbs := Int.natAbs_dvd_natAbs.2 (Int.gcd_dvd_right a b)
    have h1 : (b.natAbs / Int.gcd a b) * Int.gcd a b = b.natAbs := Nat.div_mul_cancel hd
    have h2 : ((b.natAbs / Int.gcd a b : Nat) : Int) * (Int.gcd a b : Int) = (b.natAbs : Int) := by exact_mod_cast h1
    split
    · rw [Int.mul_neg, h2]; omega
    · rw [h2]; omega
theorem rat_num_le (a b : Int) : (Rat.divInt a b).num.natAbs ≤ a.natAbs := by
  by_cases hb : b = 0
  · subst hb; simp
  · obtain ⟨g, -, hg, h1, h2⟩ := rat_low a b hb
    have := congrArg Int.natAbs h1
    rw [Int.natAbs_mul] at this
    rw [this]
    exact Nat.le_mul_of_pos_right _ (by omega)
theorem rat_den_le (a b : Int) (hb : b ≠ 0) : (Rat.divInt a b).den ≤ b.natAbs := by
    obtain ⟨g, -, hg, h1, h2⟩ := rat_low a b hb
    have := congrArg Int.natAbs h2
    rw [Int.natAbs_mul] at this
    rw [this]
    exact Nat.le_mul_of_pos_right _ (by omega)
theorem ediv_one (a q g r : Int) (n : Int) (h : a = q * g + r) (h0 : 0 ≤ r) (h1 : r < g.natAbs) (hn : a = n * g) : q = n ∧ r = 0 := by
  have hg : g ≠ 0 := by omega
  have h2 : (n - q) * g = r := by rw [Int.sub_mul]; omega
  by_cases h3 : n - q = 0
  · rw [h3] at h2
    omega
  · exfalso
    have h4 := congrArg Int.natAbs h2
    rw [Int.natAbs_mul] at h4
    have h5 : g.natAbs ≤ (n - q).natAbs * g.natAbs := Nat.le_mul_of_pos_left _ (by omega)
    omega
end Go.Proofs.YtkbgeggflhfleaaGreatDoor
