/-
  DERIVED. GIVEN WITH THE SEED: THE CARDS: each row of YtongkalfdgleaaaDoorRows.lean that lists a variable, with what it lists TIED to the program's text (the seventh form; the later family's looks); each row that meets fmt, with fmt's text TOLD by the authors' own Lean function (tested against real Go, not proved from fmt's source: count such statements apart). THE CARD IS WHAT COUNTS. Prove the row's statement (the work); the ties are given (YtongkalfdgleaaaDoorTie.lean); close each card by the builder's one call (the guide's Derived/Test/ToyasCard.lean, 'card_holds'). Laid BY PROGRAM, IN A SANDBOX (cutbox-door.mjs). By AI agents, Wed Nov 11 2026. No macro, syntax, notation, axiom, sorry.
-/
import Derived.Test.YtongkalfdgleaaaDoorRows
import GoSem.ClaimSeven
namespace Go.Proofs.YtongkalfdgleaaaDoor
namespace Rows

/-- THE TIED CARD OF 'ashlarlaw2.RatField'. -/
def ratFieldCard : Claim7 := { stood := { row := ratFieldRow, standIns := [], harness := (true, "451b9617cda75b8800b51cfbf1f6cd48276a58e24470b4de34138ddb82e2cc95"), looks := false }, kinds := [], alts := [], laidByText := true, laidKinds := [.data, .pinned], laidTests := true, laidLooks := .later }
def RatFieldCardSaid : Prop := Claim7.holds Tryd.pinned (.plain (OpenSpec.ofChange ratFieldSpec)) ratFieldCard

/-- THE TIED CARD OF 'ashlarlaw2.RatScaled'. -/
def ratScaledCard : Claim7 := { stood := { row := ratScaledRow, standIns := [], harness := (true, "451b9617cda75b8800b51cfbf1f6cd48276a58e24470b4de34138ddb82e2cc95"), looks := false }, kinds := [], alts := [], laidByText := true, laidKinds := [.data, .pinned], laidTests := true, laidLooks := .later }
def RatScaledCardSaid : Prop := Claim7.holds Tryd.pinned (.plain (OpenSpec.ofChange ratScaledSpec)) ratScaledCard

/-- THE SECOND FORM's CARD OF 'ashlarlaw2.RatField'. -/
def ratFieldUptoCard : Claim7 := { stood := { row := ratFieldUptoRow, standIns := [], harness := (true, "451b9617cda75b8800b51cfbf1f6cd48276a58e24470b4de34138ddb82e2cc95"), looks := false }, kinds := [], alts := [], laidByText := true, laidKinds := [.data, .pinned], laidTests := true, laidLooks := .later }
def RatFieldUptoCardSaid : Prop := Claim7.holds Tryd.pinned (.plain (OpenSpec.upto ratFieldSpec)) ratFieldUptoCard

/-- THE SECOND FORM's CARD OF 'ashlarlaw2.RatScaled'. -/
def ratScaledUptoCard : Claim7 := { stood := { row := ratScaledUptoRow, standIns := [], harness := (true, "451b9617cda75b8800b51cfbf1f6cd48276a58e24470b4de34138ddb82e2cc95"), looks := false }, kinds := [], alts := [], laidByText := true, laidKinds := [.data, .pinned], laidTests := true, laidLooks := .later }
def RatScaledUptoCardSaid : Prop := Claim7.holds Tryd.pinned (.plain (OpenSpec.upto ratScaledSpec)) ratScaledUptoCard
end Rows
end Go.Proofs.YtongkalfdgleaaaDoor
