/-
  Plain: the search, first part: no composite multiple of a prime from 217 to 65,537 passes (checked in pieces).
-/
import Derived.Test.YtkbgeggflhfleaaGreatDoorM1
namespace Go.Proofs.YtkbgeggflhfleaaGreatDoor.Mr
open Go.Proofs.YtkbgeggflhfleaaGreatDoor
set_option linter.unusedVariables false
set_option linter.unusedSimpArgs false
theorem p0 : rg pchk 113 3 108 = true := by decide +kernel
theorem p1 : rg pchk 118 3 114 = true := by decide +kernel
theorem p2 : rg pchk 127 4 119 = true := by decide +kernel
theorem p3 : rg pchk 134 3 128 = true := by decide +kernel
theorem p4 : rg pchk 140 3 135 = true := by decide +kernel
theorem p5 : rg pchk 154 4 141 = true := by decide +kernel
theorem p6 : rg pchk 167 4 155 = true := by decide +kernel
theorem p7 : rg pchk 185 5 168 = true := by decide +kernel
theorem p8 : rg pchk 208 5 186 = true := by decide +kernel
theorem p9 : rg pchk 230 5 209 = true := by decide +kernel
theorem p10 : rg pchk 272 6 231 = true := by decide +kernel
theorem p11 : rg pchk 325 6 273 = true := by decide +kernel
theorem p12 : rg pchk 413 7 326 = true := by decide +kernel
theorem p13 : rg pchk 515 7 414 = true := by decide +kernel
theorem p14 : rg pchk 682 8 516 = true := by decide +kernel
theorem p15 : rg pchk 1219 10 683 = true := by decide +kernel
theorem p16 : rg pchk 2062 10 1220 = true := by decide +kernel
theorem p17 : rg pchk 4799 12 2063 = true := by decide +kernel
theorem p18 : rg pchk 7169 12 4800 = true := by decide +kernel
theorem p19 : rg pchk 13739 13 7170 = true := by decide +kernel
theorem p20 : rg pchk 21358 13 13740 = true := by decide +kernel
theorem p21 : rg pchk 29393 13 21359 = true := by decide +kernel
theorem p22 : rg pchk 32768 12 29394 = true := by decide +kernel
theorem pchk_all {i : Nat} (h1 : 108 ≤ i) (h2 : i ≤ 32768) : pchk i = true := by
  rcases Nat.lt_or_ge i 114 with g0 | g0
  · exact rg_ok 3 108 p0 i (by omega) (by omega) (by omega)
  rcases Nat.lt_or_ge i 119 with g1 | g1
  · exact rg_ok 3 114 p1 i (by omega) (by omega) (by omega)
  rcases Nat.lt_or_ge i 128 with g2 | g2
  · exact rg_ok 4 119 p2 i (by omega) (by omega) (by omega)
  rcases Nat.lt_or_ge i 135 with g3 | g3
  · exact rg_ok 3 128 p3 i (by omega) (by omega) (by omega)
  rcases Nat.lt_or_ge i 141 with g4 | g4
  · exact rg_ok 3 135 p4 i (by omega) (by omega) (by omega)
  rcases Nat.lt_or_ge i 155 with g5 | g5
  · exact rg_ok 4 141 p5 i (by omega) (by omega) (by omega)
  rcases Nat.lt_or_ge i 168 with g6 | g6
  · exact rg_ok 4 155 p6 i (by omega) (by omega) (by omega)
  rcases Nat.lt_or_ge i 186 with g7 | g7
  · exact rg_ok 5 168 p7 i (by omega) (by omega) (by omega)
  rcases Nat.lt_or_ge i 209 with g8 | g8
  · exact rg_ok 5 186 p8 i (by omega) (by omega) (by omega)
  rcases Nat.lt_or_ge i 231 with g9 | g9
  · exact rg_ok 5 209 p9 i (by omega) (by omega) (by omega)
  rcases Nat.lt_or_ge i 273 with g10 | g10
  · exact rg_ok 6 231 p10 i (by omega) (by omega) (by omega)
  rcases Nat.lt_or_ge i 326 with g11 | g11
  · exact rg_ok 6 273 p11 i (by omega) (by omega) (by omega)
  rcases Nat.lt_or_ge i 414 with g12 | g12
  · exact rg_ok 7 326 p12 i (by omega) (by omega) (by omega)
  rcases Nat.lt_or_ge i 516 with g13 | g13
  · exact rg_ok 7 414 p13 i (by omega) (by omega) (by omega)
  rcases Nat.lt_or_ge i 683 with g14 | g14
  · exact rg_ok 8 516 p14 i (by omega) (by omega) (by omega)
  rcases Nat.lt_or_ge i 1220 with g15 | g15
  · exact rg_ok 10 683 p15 i (by omega) (by omega) (by omega)
  rcases Nat.lt_or_ge i 2063 with g16 | g16
  · exact rg_ok 10 1220 p16 i (by omega) (by omega) (by omega)
  rcases Nat.lt_or_ge i 4800 with g17 | g17
  · exact rg_ok 12 2063 p17 i (by omega) (by omega) (by omega)
  rcases Nat.lt_or_ge i 7170 with g18 | g18
  · exact rg_ok 12 4800 p18 i (by omega) (by omega) (by omega)
  rcases Nat.lt_or_ge i 13740 with g19 | g19
  · exact rg_ok 13 7170 p19 i (by omega) (by omega) (by omega)
  rcases Nat.lt_or_ge i 21359 with g20 | g20
  · exact rg_ok 13 13740 p20 i (by omega) (by omega) (by omega)
  rcases Nat.lt_or_ge i 29394 with g21 | g21
  · exact rg_ok 13 21359 p21 i (by omega) (by omega) (by omega)
  exact rg_ok 12 29394 p22 i (by omega) (by omega) (by omega)
end Go.Proofs.YtkbgeggflhfleaaGreatDoor.Mr
