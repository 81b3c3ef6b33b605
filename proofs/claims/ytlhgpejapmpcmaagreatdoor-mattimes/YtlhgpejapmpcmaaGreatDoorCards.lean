/-
  DERIVED. GIVEN WITH THE SEED: THE CARDS: each row of YtlhgpejapmpcmaaGreatDoorRows.lean that lists a variable, with what it lists TIED to the program's text (the seventh form; the later family's looks); each row that meets fmt, with fmt's text TOLD by the authors' own Lean function (tested against real Go, not proved from fmt's source: count such statements apart). THE CARD IS WHAT COUNTS. Prove the row's statement (the work); the ties are given (YtlhgpejapmpcmaaGreatDoorTie.lean); close each card by the builder's one call (the guide's Derived/Test/ToyasCard.lean, 'card_holds'). Laid BY PROGRAM, IN A SANDBOX (cutbox-door.mjs). By AI agents, Wed Nov 11 2026. No macro, syntax, notation, axiom, sorry.
-/
import Derived.Test.YtlhgpejapmpcmaaGreatDoorRows
import GoSem.ClaimSeven
namespace Go.Proofs.YtlhgpejapmpcmaaGreatDoor
namespace Rows

/-- THE TIED CARD OF 'ashlarlaw7.MatCost'. -/
def matCostCard : Claim7 := { stood := { row := matCostRow, standIns := [], harness := (true, "35ca27d1249cc55f4cf7a139e3c76c47724afd218fc2701deb0fe1f24985c7fc"), looks := true }, kinds := [], alts := [], laidByText := true, laidKinds := [.data], laidTests := true, laidLooks := .later }
def MatCostCardSaid : Prop := Claim7.holds Tryz.pinned (.plain (OpenSpec.ofChange matCostSpec)) matCostCard

/-- THE TIED CARD OF 'ashlarlaw7.MatTimes'. -/
def matTimesCard : Claim7 := { stood := { row := matTimesRow, standIns := [], harness := (true, "35ca27d1249cc55f4cf7a139e3c76c47724afd218fc2701deb0fe1f24985c7fc"), looks := true }, kinds := [], alts := [], laidByText := true, laidKinds := [.data], laidTests := true, laidLooks := .later }
def MatTimesCardSaid : Prop := Claim7.holds Tryz.pinned (.plain (OpenSpec.ofChange matTimesSpec)) matTimesCard

/-- THE SECOND FORM's CARD OF 'ashlarlaw7.MatCost'. -/
def matCostUptoCard : Claim7 := { stood := { row := matCostUptoRow, standIns := [], harness := (true, "35ca27d1249cc55f4cf7a139e3c76c47724afd218fc2701deb0fe1f24985c7fc"), looks := true }, kinds := [], alts := [], laidByText := true, laidKinds := [.data], laidTests := true, laidLooks := .later }
def MatCostUptoCardSaid : Prop := Claim7.holds Tryz.pinned (.plain (OpenSpec.upto matCostSpec)) matCostUptoCard

/-- THE SECOND FORM's CARD OF 'ashlarlaw7.MatTimes'. -/
def matTimesUptoCard : Claim7 := { stood := { row := matTimesUptoRow, standIns := [], harness := (true, "35ca27d1249cc55f4cf7a139e3c76c47724afd218fc2701deb0fe1f24985c7fc"), looks := true }, kinds := [], alts := [], laidByText := true, laidKinds := [.data], laidTests := true, laidLooks := .later }
def MatTimesUptoCardSaid : Prop := Claim7.holds Tryz.pinned (.plain (OpenSpec.upto matTimesSpec)) matTimesUptoCard
end Rows
end Go.Proofs.YtlhgpejapmpcmaaGreatDoor
