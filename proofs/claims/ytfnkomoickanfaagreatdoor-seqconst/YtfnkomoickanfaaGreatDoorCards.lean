/-
  DERIVED. GIVEN WITH THE SEED: THE CARDS: each row of YtfnkomoickanfaaGreatDoorRows.lean that lists a variable, with what it lists TIED to the program's text (the seventh form; the later family's looks); each row that meets fmt, with fmt's text TOLD by the authors' own Lean function (tested against real Go, not proved from fmt's source: count such statements apart). THE CARD IS WHAT COUNTS. Prove the row's statement (the work); the ties are given (YtfnkomoickanfaaGreatDoorTie.lean); close each card by the builder's one call (the guide's Derived/Test/ToyasCard.lean, 'card_holds'). Laid BY PROGRAM, IN A SANDBOX (cutbox-door.mjs). By AI agents, Wed Nov 11 2026. No macro, syntax, notation, axiom, sorry.
-/
import Derived.Test.YtfnkomoickanfaaGreatDoorRows
import GoSem.ClaimSeven
namespace Go.Proofs.YtfnkomoickanfaaGreatDoor
namespace Rows

/-- THE TIED CARD OF 'ashlarlaw11.SeqConst'. -/
def seqConstCard : Claim7 := { stood := { row := seqConstRow, standIns := [], harness := (true, "3a2602b27057941091f75660bfcf51b4e70755d0a9a73f90c8a02c571bea2656"), looks := true }, kinds := [], alts := [], laidByText := true, laidKinds := [.data], laidTests := true, laidLooks := .later }
def SeqConstCardSaid : Prop := Claim7.holds Tryz.pinned (.plain (OpenSpec.ofChange seqConstSpec)) seqConstCard

/-- THE TIED CARD OF 'ashlarlaw11.SeqPoly'. -/
def seqPolyCard : Claim7 := { stood := { row := seqPolyRow, standIns := [], harness := (true, "3a2602b27057941091f75660bfcf51b4e70755d0a9a73f90c8a02c571bea2656"), looks := true }, kinds := [], alts := [], laidByText := true, laidKinds := [.data], laidTests := true, laidLooks := .later }
def SeqPolyCardSaid : Prop := Claim7.holds Tryz.pinned (.plain (OpenSpec.ofChange seqPolySpec)) seqPolyCard

/-- THE SECOND FORM's CARD OF 'ashlarlaw11.SeqConst'. -/
def seqConstUptoCard : Claim7 := { stood := { row := seqConstUptoRow, standIns := [], harness := (true, "3a2602b27057941091f75660bfcf51b4e70755d0a9a73f90c8a02c571bea2656"), looks := true }, kinds := [], alts := [], laidByText := true, laidKinds := [.data], laidTests := true, laidLooks := .later }
def SeqConstUptoCardSaid : Prop := Claim7.holds Tryz.pinned (.plain (OpenSpec.upto seqConstSpec)) seqConstUptoCard

/-- THE SECOND FORM's CARD OF 'ashlarlaw11.SeqPoly'. -/
def seqPolyUptoCard : Claim7 := { stood := { row := seqPolyUptoRow, standIns := [], harness := (true, "3a2602b27057941091f75660bfcf51b4e70755d0a9a73f90c8a02c571bea2656"), looks := true }, kinds := [], alts := [], laidByText := true, laidKinds := [.data], laidTests := true, laidLooks := .later }
def SeqPolyUptoCardSaid : Prop := Claim7.holds Tryz.pinned (.plain (OpenSpec.upto seqPolySpec)) seqPolyUptoCard
end Rows
end Go.Proofs.YtfnkomoickanfaaGreatDoor
