/-
  DERIVED. GIVEN WITH THE SEED: THE CARDS: each row of YtinkkfkepjgahaaDoorRows.lean that lists a variable, with what it lists TIED to the program's text (the seventh form; the later family's looks); each row that meets fmt, with fmt's text TOLD by the authors' own Lean function (tested against real Go, not proved from fmt's source: count such statements apart). THE CARD IS WHAT COUNTS. Prove the row's statement (the work); the ties are given (YtinkkfkepjgahaaDoorTie.lean); close each card by the builder's one call (the guide's Derived/Test/ToyasCard.lean, 'card_holds'). Laid BY PROGRAM, IN A SANDBOX (cutbox-door.mjs). By AI agents, Wed Nov 11 2026. No macro, syntax, notation, axiom, sorry.
-/
import Derived.Test.YtinkkfkepjgahaaDoorRows
import GoSem.ClaimSeven
namespace Go.Proofs.YtinkkfkepjgahaaDoor
namespace Rows

/-- THE TIED CARD OF 'ashlarlaw1.IntGcd'. -/
def intGcdCard : Claim7 := { stood := { row := intGcdRow, standIns := [], harness := (true, "ae63e6462aaf76ab2a2beab60dfd6d2c2546d83c32099888bbf38fbae1e261e9"), looks := false }, kinds := [], alts := [], laidByText := true, laidKinds := [.data, .pinned], laidTests := true, laidLooks := .later }
def IntGcdCardSaid : Prop := Claim7.holds Tryd.pinned (.plain (OpenSpec.ofChange intGcdSpec)) intGcdCard

/-- THE SECOND FORM's CARD OF 'ashlarlaw1.IntGcd'. -/
def intGcdUptoCard : Claim7 := { stood := { row := intGcdUptoRow, standIns := [], harness := (true, "ae63e6462aaf76ab2a2beab60dfd6d2c2546d83c32099888bbf38fbae1e261e9"), looks := false }, kinds := [], alts := [], laidByText := true, laidKinds := [.data, .pinned], laidTests := true, laidLooks := .later }
def IntGcdUptoCardSaid : Prop := Claim7.holds Tryd.pinned (.plain (OpenSpec.upto intGcdSpec)) intGcdUptoCard
end Rows
end Go.Proofs.YtinkkfkepjgahaaDoor
