/-
  The runner's first known calls: residue.IsPrime of 7, 91 and 2^31 - 1 (they read the table of trailing zeros).
-/
import Derived.Test.YtkbgeggflhfleaaGreatDoorH2
import Derived.Test.YtkbgeggflhfleaaGreatDoorM8
namespace Go.Proofs.YtkbgeggflhfleaaGreatDoor.Rs
open Go.RowKit Go.Proofs.YtkbgeggflhfleaaGreatDoor
set_option linter.unusedVariables false
theorem tz_to {w : World} (h : TzT w) : Ev.TZ w := fun g hg => by
  have h1 : Ev.tzB = some (renTz.g 1) := by kernel_rfl
  obtain rfl := Option.some.inj (h1.symm.trans hg)
  exact h
theorem tz_of {w : World} (h : Ev.TZ w) : TzT w := h _ (by kernel_rfl)
theorem ip_max : Cp.ip 2147483647 = true := by
  rw [← Cp.ipF_eq (by decide) (by decide)]
  decide +kernel
theorem isp7 : Mr.isp 7 = true := (Mr.isp_eq (by decide) (by decide)).2 (Mr.smalls_pr 7 (by decide))
theorem isp_max : Mr.isp 2147483647 = true := (Mr.isp_eq (by decide) (by decide)).2 (Mr.pr_of_ip (by decide) (by decide) (by decide) ip_max)
theorem isp91 : Mr.isp 91 = false := by
  cases h : Mr.isp 91 with
  | false => rfl
  | true =>
    have h1 := ((Mr.isp_eq (by decide) (by decide)).1 h).2 7 ⟨13, rfl⟩
    omega
theorem ent_ip {m : Nat} {b : Bool} (h1 : 2 ≤ m) (h2 : m ≤ 2147483647) (hb : Mr.isp m = b) : Ev.EntOK Tryz.prog 26 ⟨[.int .i64 (m : Int)], [], .bool b, []⟩ := by
  refine Ev.ent_call (by cases b <;> rfl) fun ρ w xs hT hx => ?_
  obtain ⟨xl⟩ := xs
  cases hx with
  | cons hv hn =>
    cases hn
    cases hv
    refine (isPrime_in m w h1 h2 (tz_of hT)).mono ?_
    rintro r w' ⟨rfl, rfl⟩
    exact ⟨.bool b, by rw [hb], .bool b, rfl⟩
noncomputable def tzTab : Ev.Tab := Ev.tabAdd (Ev.tabAdd (Ev.tabAdd .e 26 ⟨[.int .i64 (7 : Nat)], [], .bool true, []⟩) 26 ⟨[.int .i64 (91 : Nat)], [], .bool false, []⟩) 26 ⟨[.int .i64 (2147483647 : Nat)], [], .bool true, []⟩
theorem tzTab_ok : Ev.TabOK Tryz.prog tzTab :=
  Ev.tab_ent (Ev.tab_ent (Ev.tab_ent Ev.tab_nil (by kernel_rfl) (ent_ip (by decide) (by decide) isp7)) (by kernel_rfl) (ent_ip (by decide) (by decide) isp91)) (by kernel_rfl) (ent_ip (by decide) (by decide) isp_max)
end Go.Proofs.YtkbgeggflhfleaaGreatDoor.Rs
