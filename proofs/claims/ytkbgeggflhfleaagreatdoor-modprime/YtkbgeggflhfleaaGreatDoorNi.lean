/-
  Numbers as the program hands them about: a sign and limbs.
-/
import Derived.Test.YtkbgeggflhfleaaGreatDoorWdWe
namespace Go.Proofs.YtkbgeggflhfleaaGreatDoor
open Go.RowKit
set_option linter.unusedVariables false
set_option linter.unusedSimpArgs false
set_option maxHeartbeats 8000000
def ival (s : Bool) (xs : List Int) : Int := if s then - val xs else val xs
structure AI (w : World) (p : Option Addr) (n nc : Nat) (xs : List Int) : Prop where
  len : xs.length = n
  cap : n ≤ nc
  bnd : nc ≤ maxLen
  sml : n ≤ 100000000
  rd : Rd w p .u32 xs
  u : U32 xs
structure NI (B : Nat) (w : World) (s : Bool) (p : Option Addr) (n : Nat) (xs : List Int) (z : Int) : Prop where
  len : xs.length = n
  rd : Rd w p .u32 xs
  u : U32 xs
  nrm : tlen xs = n
  sg : n = 0 → s = false
  pn : n = 0 → p = none
  v : ival s xs = z
  fr : From B p
  fz : Fz w p
theorem NI.ai {B : Nat} {w : World} {s : Bool} {p : Option Addr} {n : Nat} {xs : List Int} {z : Int} (h : NI B w s p n xs z) (hn : n ≤ 100000000) : AI w p n n xs :=
  ⟨h.len, Nat.le_refl _, by unfold maxLen; omega, hn, h.rd, h.u⟩
end Go.Proofs.YtkbgeggflhfleaaGreatDoor
