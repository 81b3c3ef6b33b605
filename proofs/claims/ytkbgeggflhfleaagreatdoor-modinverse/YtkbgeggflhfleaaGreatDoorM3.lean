/-
  Plain: the search, second part: no product of primes from 11 to 211 passes; and what a further factor above 65,537 would have to divide.
-/
import Derived.Test.YtkbgeggflhfleaaGreatDoorM1
namespace Go.Proofs.YtkbgeggflhfleaaGreatDoor.Mr
open Go.Proofs.YtkbgeggflhfleaaGreatDoor
set_option linter.unusedVariables false
set_option linter.unusedSimpArgs false
theorem c11_0 : go 2147483647 tC 7 sl 121 = true := by decide +kernel
theorem c11_1 : go 2147483647 tC 7 (sl.drop 1) 143 = true := by decide +kernel
theorem c11_2 : go 2147483647 tC 7 (sl.drop 2) 187 = true := by decide +kernel
theorem c11_3 : go 2147483647 tC 8 (sl.drop 3) 11 = true := by decide +kernel
theorem e11 : tC 11 (11, 10) = true ∧ tC 11 (13, 12) = true ∧ tC 11 (17, 16) = true := by decide +kernel
theorem c11 : go 2147483647 tC 8 sl 11 = true := go_cons (e := (11, 10)) (L := sl.drop 1) e11.1 c11_0 (go_cons (e := (13, 12)) (L := sl.drop 2) e11.2.1 c11_1 (go_cons (e := (17, 16)) (L := sl.drop 3) e11.2.2 c11_2 c11_3))
theorem c13_0 : go 2147483647 tC 7 (sl.drop 1) 169 = true := by decide +kernel
theorem c13_1 : go 2147483647 tC 8 (sl.drop 2) 13 = true := by decide +kernel
theorem e13 : tC 13 (13, 12) = true := by decide +kernel
theorem c13 : go 2147483647 tC 8 (sl.drop 1) 13 = true := go_cons (e := (13, 12)) (L := sl.drop 2) e13 c13_0 c13_1
theorem c17 : go 2147483647 tC 8 (sl.drop 2) 17 = true := by decide +kernel
theorem c19 : go 2147483647 tC 8 (sl.drop 3) 19 = true := by decide +kernel
theorem c23 : go 2147483647 tC 8 (sl.drop 4) 23 = true := by decide +kernel
theorem c29 : go 2147483647 tC 8 (sl.drop 5) 29 = true := by decide +kernel
theorem c31 : go 2147483647 tC 8 (sl.drop 6) 31 = true := by decide +kernel
theorem c37 : go 2147483647 tC 9 (sl.drop 7) 1 = true := by decide +kernel
theorem e1 : tC 1 (11, 10) = true ∧ tC 1 (13, 12) = true ∧ tC 1 (17, 16) = true ∧ tC 1 (19, 18) = true ∧ tC 1 (23, 22) = true ∧ tC 1 (29, 28) = true ∧ tC 1 (31, 30) = true := by decide +kernel
theorem c_all : go 2147483647 tC 9 sl 1 = true :=
  go_cons (e := (11, 10)) (L := sl.drop 1) e1.1 c11 (go_cons (e := (13, 12)) (L := sl.drop 2) e1.2.1 c13 (go_cons (e := (17, 16)) (L := sl.drop 3) e1.2.2.1 c17 (go_cons (e := (19, 18)) (L := sl.drop 4) e1.2.2.2.1 c19 (go_cons (e := (23, 22)) (L := sl.drop 5) e1.2.2.2.2.1 c23 (go_cons (e := (29, 28)) (L := sl.drop 6) e1.2.2.2.2.2.1 c29 (go_cons (e := (31, 30)) (L := sl.drop 7) e1.2.2.2.2.2.2 c31 (c37)))))))
theorem a_all : go 32767 tA 5 sl 1 = true := by decide +kernel
end Go.Proofs.YtkbgeggflhfleaaGreatDoor.Mr
