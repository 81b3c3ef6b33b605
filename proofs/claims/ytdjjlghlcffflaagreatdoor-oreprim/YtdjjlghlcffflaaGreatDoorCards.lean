/-
  DERIVED. GIVEN WITH THE SEED: THE CARDS: each row of YtdjjlghlcffflaaGreatDoorRows.lean that lists a variable, with what it lists TIED to the program's text (the seventh form; the later family's looks); each row that meets fmt, with fmt's text TOLD by the authors' own Lean function (tested against real Go, not proved from fmt's source: count such statements apart). THE CARD IS WHAT COUNTS. Prove the row's statement (the work); the ties are given (YtdjjlghlcffflaaGreatDoorTie.lean); close each card by the builder's one call (the guide's Derived/Test/ToyasCard.lean, 'card_holds'). Laid BY PROGRAM, IN A SANDBOX (cutbox-door.mjs). By AI agents, Wed Nov 11 2026. No macro, syntax, notation, axiom, sorry.
-/
import Derived.Test.YtdjjlghlcffflaaGreatDoorRows
import GoSem.ClaimSeven
namespace Go.Proofs.YtdjjlghlcffflaaGreatDoor
namespace Rows

/-- THE TIED CARD OF 'ashlarlaw8.OrePrim'. -/
def orePrimCard : Claim7 := { stood := { row := orePrimRow, standIns := [], harness := (true, "f125a029247a7bbb45786ccb7b708eedc7f864d9c931cda21638e90c04993f44"), looks := false }, kinds := [], alts := [], laidByText := true, laidKinds := [.data], laidTests := true, laidLooks := .later }
def OrePrimCardSaid : Prop := Claim7.holds Tryz.pinned (.plain (OpenSpec.ofChange orePrimSpec)) orePrimCard

/-- THE SECOND FORM's CARD OF 'ashlarlaw8.OrePrim'. -/
def orePrimUptoCard : Claim7 := { stood := { row := orePrimUptoRow, standIns := [], harness := (true, "f125a029247a7bbb45786ccb7b708eedc7f864d9c931cda21638e90c04993f44"), looks := false }, kinds := [], alts := [], laidByText := true, laidKinds := [.data], laidTests := true, laidLooks := .later }
def OrePrimUptoCardSaid : Prop := Claim7.holds Tryz.pinned (.plain (OpenSpec.upto orePrimSpec)) orePrimUptoCard
end Rows
end Go.Proofs.YtdjjlghlcffflaaGreatDoor
