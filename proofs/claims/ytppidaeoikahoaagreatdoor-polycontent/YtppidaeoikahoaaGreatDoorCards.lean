/-
  DERIVED. GIVEN WITH THE SEED: THE CARDS: each row of YtppidaeoikahoaaGreatDoorRows.lean that lists a variable, with what it lists TIED to the program's text (the seventh form; the later family's looks); each row that meets fmt, with fmt's text TOLD by the authors' own Lean function (tested against real Go, not proved from fmt's source: count such statements apart). THE CARD IS WHAT COUNTS. Prove the row's statement (the work); the ties are given (YtppidaeoikahoaaGreatDoorTie.lean); close each card by the builder's one call (the guide's Derived/Test/ToyasCard.lean, 'card_holds'). Laid BY PROGRAM, IN A SANDBOX (cutbox-door.mjs). By AI agents, Wed Nov 11 2026. No macro, syntax, notation, axiom, sorry.
-/
import Derived.Test.YtppidaeoikahoaaGreatDoorRows
import GoSem.ClaimSeven
namespace Go.Proofs.YtppidaeoikahoaaGreatDoor
namespace Rows

/-- THE TIED CARD OF 'ashlarlaw3.PolySums'. -/
def polySumsCard : Claim7 := { stood := { row := polySumsRow, standIns := [], harness := (true, "9cdfcc259810c21179b36109eaaff0eb3c822d55191d80b25306726dfcc5b0b9"), looks := false }, kinds := [], alts := [], laidByText := true, laidKinds := [.data], laidTests := true, laidLooks := .later }
def PolySumsCardSaid : Prop := Claim7.holds Tryz.pinned (.plain (OpenSpec.ofChange polySumsSpec)) polySumsCard

/-- THE TIED CARD OF 'ashlarlaw3.PolyEval'. -/
def polyEvalCard : Claim7 := { stood := { row := polyEvalRow, standIns := [], harness := (true, "9cdfcc259810c21179b36109eaaff0eb3c822d55191d80b25306726dfcc5b0b9"), looks := false }, kinds := [], alts := [], laidByText := true, laidKinds := [.data], laidTests := true, laidLooks := .later }
def PolyEvalCardSaid : Prop := Claim7.holds Tryz.pinned (.plain (OpenSpec.ofChange polyEvalSpec)) polyEvalCard

/-- THE TIED CARD OF 'ashlarlaw3.PolyShift'. -/
def polyShiftCard : Claim7 := { stood := { row := polyShiftRow, standIns := [], harness := (true, "9cdfcc259810c21179b36109eaaff0eb3c822d55191d80b25306726dfcc5b0b9"), looks := false }, kinds := [], alts := [], laidByText := true, laidKinds := [.data], laidTests := true, laidLooks := .later }
def PolyShiftCardSaid : Prop := Claim7.holds Tryz.pinned (.plain (OpenSpec.ofChange polyShiftSpec)) polyShiftCard

/-- THE TIED CARD OF 'ashlarlaw3.PolyContent'. -/
def polyContentCard : Claim7 := { stood := { row := polyContentRow, standIns := [], harness := (true, "9cdfcc259810c21179b36109eaaff0eb3c822d55191d80b25306726dfcc5b0b9"), looks := false }, kinds := [], alts := [], laidByText := true, laidKinds := [.data], laidTests := true, laidLooks := .later }
def PolyContentCardSaid : Prop := Claim7.holds Tryz.pinned (.plain (OpenSpec.ofChange polyContentSpec)) polyContentCard

/-- THE TIED CARD OF 'ashlarlaw3.PolyPseudo'. -/
def polyPseudoCard : Claim7 := { stood := { row := polyPseudoRow, standIns := [], harness := (true, "9cdfcc259810c21179b36109eaaff0eb3c822d55191d80b25306726dfcc5b0b9"), looks := false }, kinds := [], alts := [], laidByText := true, laidKinds := [.data], laidTests := true, laidLooks := .later }
def PolyPseudoCardSaid : Prop := Claim7.holds Tryz.pinned (.plain (OpenSpec.ofChange polyPseudoSpec)) polyPseudoCard

/-- THE TIED CARD OF 'ashlarlaw3.PolyExact'. -/
def polyExactCard : Claim7 := { stood := { row := polyExactRow, standIns := [], harness := (true, "9cdfcc259810c21179b36109eaaff0eb3c822d55191d80b25306726dfcc5b0b9"), looks := false }, kinds := [], alts := [], laidByText := true, laidKinds := [.data], laidTests := true, laidLooks := .later }
def PolyExactCardSaid : Prop := Claim7.holds Tryz.pinned (.plain (OpenSpec.ofChange polyExactSpec)) polyExactCard

/-- THE SECOND FORM's CARD OF 'ashlarlaw3.PolySums'. -/
def polySumsUptoCard : Claim7 := { stood := { row := polySumsUptoRow, standIns := [], harness := (true, "9cdfcc259810c21179b36109eaaff0eb3c822d55191d80b25306726dfcc5b0b9"), looks := false }, kinds := [], alts := [], laidByText := true, laidKinds := [.data], laidTests := true, laidLooks := .later }
def PolySumsUptoCardSaid : Prop := Claim7.holds Tryz.pinned (.plain (OpenSpec.upto polySumsSpec)) polySumsUptoCard

/-- THE SECOND FORM's CARD OF 'ashlarlaw3.PolyEval'. -/
def polyEvalUptoCard : Claim7 := { stood := { row := polyEvalUptoRow, standIns := [], harness := (true, "9cdfcc259810c21179b36109eaaff0eb3c822d55191d80b25306726dfcc5b0b9"), looks := false }, kinds := [], alts := [], laidByText := true, laidKinds := [.data], laidTests := true, laidLooks := .later }
def PolyEvalUptoCardSaid : Prop := Claim7.holds Tryz.pinned (.plain (OpenSpec.upto polyEvalSpec)) polyEvalUptoCard

/-- THE SECOND FORM's CARD OF 'ashlarlaw3.PolyShift'. -/
def polyShiftUptoCard : Claim7 := { stood := { row := polyShiftUptoRow, standIns := [], harness := (true, "9cdfcc259810c21179b36109eaaff0eb3c822d55191d80b25306726dfcc5b0b9"), looks := false }, kinds := [], alts := [], laidByText := true, laidKinds := [.data], laidTests := true, laidLooks := .later }
def PolyShiftUptoCardSaid : Prop := Claim7.holds Tryz.pinned (.plain (OpenSpec.upto polyShiftSpec)) polyShiftUptoCard

/-- THE SECOND FORM's CARD OF 'ashlarlaw3.PolyContent'. -/
def polyContentUptoCard : Claim7 := { stood := { row := polyContentUptoRow, standIns := [], harness := (true, "9cdfcc259810c21179b36109eaaff0eb3c822d55191d80b25306726dfcc5b0b9"), looks := false }, kinds := [], alts := [], laidByText := true, laidKinds := [.data], laidTests := true, laidLooks := .later }
def PolyContentUptoCardSaid : Prop := Claim7.holds Tryz.pinned (.plain (OpenSpec.upto polyContentSpec)) polyContentUptoCard

/-- THE SECOND FORM's CARD OF 'ashlarlaw3.PolyPseudo'. -/
def polyPseudoUptoCard : Claim7 := { stood := { row := polyPseudoUptoRow, standIns := [], harness := (true, "9cdfcc259810c21179b36109eaaff0eb3c822d55191d80b25306726dfcc5b0b9"), looks := false }, kinds := [], alts := [], laidByText := true, laidKinds := [.data], laidTests := true, laidLooks := .later }
def PolyPseudoUptoCardSaid : Prop := Claim7.holds Tryz.pinned (.plain (OpenSpec.upto polyPseudoSpec)) polyPseudoUptoCard

/-- THE SECOND FORM's CARD OF 'ashlarlaw3.PolyExact'. -/
def polyExactUptoCard : Claim7 := { stood := { row := polyExactUptoRow, standIns := [], harness := (true, "9cdfcc259810c21179b36109eaaff0eb3c822d55191d80b25306726dfcc5b0b9"), looks := false }, kinds := [], alts := [], laidByText := true, laidKinds := [.data], laidTests := true, laidLooks := .later }
def PolyExactUptoCardSaid : Prop := Claim7.holds Tryz.pinned (.plain (OpenSpec.upto polyExactSpec)) polyExactUptoCard
end Rows
end Go.Proofs.YtppidaeoikahoaaGreatDoor
