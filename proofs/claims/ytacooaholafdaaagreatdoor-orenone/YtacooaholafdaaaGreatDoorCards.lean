/-
  DERIVED. GIVEN WITH THE SEED: THE CARDS: each row of YtacooaholafdaaaGreatDoorRows.lean that lists a variable, with what it lists TIED to the program's text (the seventh form; the later family's looks); each row that meets fmt, with fmt's text TOLD by the authors' own Lean function (tested against real Go, not proved from fmt's source: count such statements apart). THE CARD IS WHAT COUNTS. Prove the row's statement (the work); the ties are given (YtacooaholafdaaaGreatDoorTie.lean); close each card by the builder's one call (the guide's Derived/Test/ToyasCard.lean, 'card_holds'). Laid BY PROGRAM, IN A SANDBOX (cutbox-door.mjs). By AI agents, Wed Nov 11 2026. No macro, syntax, notation, axiom, sorry.
-/
import Derived.Test.YtacooaholafdaaaGreatDoorRows
import GoSem.ClaimSeven
namespace Go.Proofs.YtacooaholafdaaaGreatDoor
namespace Rows

/-- THE TIED CARD OF 'ashlarlaw8.OreNone'. -/
def oreNoneCard : Claim7 := { stood := { row := oreNoneRow, standIns := [], harness := (true, "098c52b35e524d78e87ce5a2ad189bd820bb15ed3ad5fcf0566125f7d71cc9eb"), looks := false }, kinds := [], alts := [], laidByText := true, laidKinds := [.data], laidTests := true, laidLooks := .later }
def OreNoneCardSaid : Prop := Claim7.holds Tryz.pinned (.plain (OpenSpec.ofChange oreNoneSpec)) oreNoneCard

/-- THE SECOND FORM's CARD OF 'ashlarlaw8.OreNone'. -/
def oreNoneUptoCard : Claim7 := { stood := { row := oreNoneUptoRow, standIns := [], harness := (true, "098c52b35e524d78e87ce5a2ad189bd820bb15ed3ad5fcf0566125f7d71cc9eb"), looks := false }, kinds := [], alts := [], laidByText := true, laidKinds := [.data], laidTests := true, laidLooks := .later }
def OreNoneUptoCardSaid : Prop := Claim7.holds Tryz.pinned (.plain (OpenSpec.upto oreNoneSpec)) oreNoneUptoCard
end Rows
end Go.Proofs.YtacooaholafdaaaGreatDoor
