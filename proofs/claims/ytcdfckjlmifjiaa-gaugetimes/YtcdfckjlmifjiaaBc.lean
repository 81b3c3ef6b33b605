/-
  Plain: products of estimates stop at the top, in any order.
-/
import Derived.Test.YtcdfckjlmifjiaaOr
namespace Go.Proofs.Ytcdfckjlmifjiaa
open Go.RowKit
set_option linter.unusedVariables false
set_option linter.unusedSimpArgs false

/-- The product of the factors, those below 1 counting as 1. -/
def pr1 : List Int → Int
  | [] => 1
  | x :: xs => max x 1 * pr1 xs
theorem pr1_pos : ∀ xs, 1 ≤ pr1 xs
  | [] => by decide
  | x :: xs => by
    have h1 := pr1_pos xs
    have h2 : 1 ≤ max x 1 := Int.le_max_right x 1
    have := Int.mul_le_mul h2 h1 (by decide) (by omega)
    rw [pr1]
    omega
theorem pr1_append : ∀ xs ys, pr1 (xs ++ ys) = pr1 xs * pr1 ys
  | [], ys => by simp [pr1]
  | x :: xs, ys => by rw [List.cons_append, pr1, pr1, pr1_append xs ys, Int.mul_assoc]
theorem pr1_reverse : ∀ xs, pr1 xs.reverse = pr1 xs
  | [] => rfl
  | x :: xs => by
    rw [List.reverse_cons, pr1_append, pr1_reverse xs, pr1, pr1, pr1, Int.mul_one, Int.mul_comm]
theorem fold_pr1 : ∀ (xs : List Int) (c : Int), 1 ≤ c → c ≤ 4611686018427387904 → xs.foldl tmf c = min (c * pr1 xs) 4611686018427387904
  | [], c, h0, h1 => by
    rw [pr1, Int.mul_one]
    show c = _
    omega
  | x :: xs, c, h0, h1 => by
    have hb := tmf_bd (x := x) h0
    rw [List.foldl_cons, fold_pr1 xs (tmf c x) hb.1 hb.2, pr1, ← Int.mul_assoc]
    have hp := pr1_pos xs
    unfold tmf
    rcases Int.lt_or_le 4611686018427387904 (c * max x 1) with h | h
    · have e : min (c * max x 1) 4611686018427387904 = 4611686018427387904 := by omega
      rw [e]
      have h2 : (4611686018427387904 : Int) * 1 ≤ 4611686018427387904 * pr1 xs := Int.mul_le_mul (Int.le_refl _) hp (by decide) (by decide)
      have h3 : c * max x 1 * 1 ≤ c * max x 1 * pr1 xs := Int.mul_le_mul (Int.le_refl _) hp (by decide) (by omega)
      omega
    · have e : min (c * max x 1) 4611686018427387904 = c * max x 1 := by omega
      rw [e]
theorem tms_pr1 (xs : List Int) : tms xs = min (pr1 xs) 4611686018427387904 := by
  rw [tms, fold_pr1 xs 1 (by decide) (by decide), Int.one_mul]
theorem tms_rev (xs : List Int) : tms xs.reverse = tms xs := by rw [tms_pr1, tms_pr1, pr1_reverse]
end Go.Proofs.Ytcdfckjlmifjiaa
