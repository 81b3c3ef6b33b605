/-
  DERIVED. GIVEN WITH THE SEED: THE CARDS: each row of YtgecfnoecmjacaaGreatDoorRows.lean that lists a variable, with what it lists TIED to the program's text (the seventh form; the later family's looks); each row that meets fmt, with fmt's text TOLD by the authors' own Lean function (tested against real Go, not proved from fmt's source: count such statements apart). THE CARD IS WHAT COUNTS. Prove the row's statement (the work); the ties are given (YtgecfnoecmjacaaGreatDoorTie.lean); close each card by the builder's one call (the guide's Derived/Test/ToyasCard.lean, 'card_holds'). Laid BY PROGRAM, IN A SANDBOX (cutbox-door.mjs). By AI agents, Wed Nov 11 2026. No macro, syntax, notation, axiom, sorry.
-/
import Derived.Test.YtgecfnoecmjacaaGreatDoorRows
import GoSem.ClaimSeven
namespace Go.Proofs.YtgecfnoecmjacaaGreatDoor
namespace Rows

/-- THE TIED CARD OF 'ashlarlaw3.PolySums'. -/
def polySumsCard : Claim7 := { stood := { row := polySumsRow, standIns := [], harness := (true, "2fcb8f8b37065281fed2c6a9c50c5373a26df041b3edd14c6c8992d0ae6238fb"), looks := false }, kinds := [], alts := [], laidByText := true, laidKinds := [.data], laidTests := true, laidLooks := .later }
def PolySumsCardSaid : Prop := Claim7.holds Tryz.pinned (.plain (OpenSpec.ofChange polySumsSpec)) polySumsCard

/-- THE TIED CARD OF 'ashlarlaw3.PolyEval'. -/
def polyEvalCard : Claim7 := { stood := { row := polyEvalRow, standIns := [], harness := (true, "2fcb8f8b37065281fed2c6a9c50c5373a26df041b3edd14c6c8992d0ae6238fb"), looks := false }, kinds := [], alts := [], laidByText := true, laidKinds := [.data], laidTests := true, laidLooks := .later }
def PolyEvalCardSaid : Prop := Claim7.holds Tryz.pinned (.plain (OpenSpec.ofChange polyEvalSpec)) polyEvalCard

/-- THE TIED CARD OF 'ashlarlaw3.PolyShift'. -/
def polyShiftCard : Claim7 := { stood := { row := polyShiftRow, standIns := [], harness := (true, "2fcb8f8b37065281fed2c6a9c50c5373a26df041b3edd14c6c8992d0ae6238fb"), looks := false }, kinds := [], alts := [], laidByText := true, laidKinds := [.data], laidTests := true, laidLooks := .later }
def PolyShiftCardSaid : Prop := Claim7.holds Tryz.pinned (.plain (OpenSpec.ofChange polyShiftSpec)) polyShiftCard

/-- THE TIED CARD OF 'ashlarlaw3.PolyPseudo'. -/
def polyPseudoCard : Claim7 := { stood := { row := polyPseudoRow, standIns := [], harness := (true, "2fcb8f8b37065281fed2c6a9c50c5373a26df041b3edd14c6c8992d0ae6238fb"), looks := false }, kinds := [], alts := [], laidByText := true, laidKinds := [.data], laidTests := true, laidLooks := .later }
def PolyPseudoCardSaid : Prop := Claim7.holds Tryz.pinned (.plain (OpenSpec.ofChange polyPseudoSpec)) polyPseudoCard

/-- THE TIED CARD OF 'ashlarlaw3.PolyTerms'. -/
def polyTermsCard : Claim7 := { stood := { row := polyTermsRow, standIns := [], harness := (true, "2fcb8f8b37065281fed2c6a9c50c5373a26df041b3edd14c6c8992d0ae6238fb"), looks := false }, kinds := [], alts := [], laidByText := true, laidKinds := [.data], laidTests := true, laidLooks := .later }
def PolyTermsCardSaid : Prop := Claim7.holds Tryz.pinned (.plain (OpenSpec.ofChange polyTermsSpec)) polyTermsCard

/-- THE TIED CARD OF 'ashlarlaw3.PolyRing'. -/
def polyRingCard : Claim7 := { stood := { row := polyRingRow, standIns := [], harness := (true, "2fcb8f8b37065281fed2c6a9c50c5373a26df041b3edd14c6c8992d0ae6238fb"), looks := false }, kinds := [], alts := [], laidByText := true, laidKinds := [.data], laidTests := true, laidLooks := .later }
def PolyRingCardSaid : Prop := Claim7.holds Tryz.pinned (.plain (OpenSpec.ofChange polyRingSpec)) polyRingCard

/-- THE SECOND FORM's CARD OF 'ashlarlaw3.PolySums'. -/
def polySumsUptoCard : Claim7 := { stood := { row := polySumsUptoRow, standIns := [], harness := (true, "2fcb8f8b37065281fed2c6a9c50c5373a26df041b3edd14c6c8992d0ae6238fb"), looks := false }, kinds := [], alts := [], laidByText := true, laidKinds := [.data], laidTests := true, laidLooks := .later }
def PolySumsUptoCardSaid : Prop := Claim7.holds Tryz.pinned (.plain (OpenSpec.upto polySumsSpec)) polySumsUptoCard

/-- THE SECOND FORM's CARD OF 'ashlarlaw3.PolyEval'. -/
def polyEvalUptoCard : Claim7 := { stood := { row := polyEvalUptoRow, standIns := [], harness := (true, "2fcb8f8b37065281fed2c6a9c50c5373a26df041b3edd14c6c8992d0ae6238fb"), looks := false }, kinds := [], alts := [], laidByText := true, laidKinds := [.data], laidTests := true, laidLooks := .later }
def PolyEvalUptoCardSaid : Prop := Claim7.holds Tryz.pinned (.plain (OpenSpec.upto polyEvalSpec)) polyEvalUptoCard

/-- THE SECOND FORM's CARD OF 'ashlarlaw3.PolyShift'. -/
def polyShiftUptoCard : Claim7 := { stood := { row := polyShiftUptoRow, standIns := [], harness := (true, "2fcb8f8b37065281fed2c6a9c50c5373a26df041b3edd14c6c8992d0ae6238fb"), looks := false }, kinds := [], alts := [], laidByText := true, laidKinds := [.data], laidTests := true, laidLooks := .later }
def PolyShiftUptoCardSaid : Prop := Claim7.holds Tryz.pinned (.plain (OpenSpec.upto polyShiftSpec)) polyShiftUptoCard

/-- THE SECOND FORM's CARD OF 'ashlarlaw3.PolyPseudo'. -/
def polyPseudoUptoCard : Claim7 := { stood := { row := polyPseudoUptoRow, standIns := [], harness := (true, "2fcb8f8b37065281fed2c6a9c50c5373a26df041b3edd14c6c8992d0ae6238fb"), looks := false }, kinds := [], alts := [], laidByText := true, laidKinds := [.data], laidTests := true, laidLooks := .later }
def PolyPseudoUptoCardSaid : Prop := Claim7.holds Tryz.pinned (.plain (OpenSpec.upto polyPseudoSpec)) polyPseudoUptoCard

/-- THE SECOND FORM's CARD OF 'ashlarlaw3.PolyTerms'. -/
def polyTermsUptoCard : Claim7 := { stood := { row := polyTermsUptoRow, standIns := [], harness := (true, "2fcb8f8b37065281fed2c6a9c50c5373a26df041b3edd14c6c8992d0ae6238fb"), looks := false }, kinds := [], alts := [], laidByText := true, laidKinds := [.data], laidTests := true, laidLooks := .later }
def PolyTermsUptoCardSaid : Prop := Claim7.holds Tryz.pinned (.plain (OpenSpec.upto polyTermsSpec)) polyTermsUptoCard

/-- THE SECOND FORM's CARD OF 'ashlarlaw3.PolyRing'. -/
def polyRingUptoCard : Claim7 := { stood := { row := polyRingUptoRow, standIns := [], harness := (true, "2fcb8f8b37065281fed2c6a9c50c5373a26df041b3edd14c6c8992d0ae6238fb"), looks := false }, kinds := [], alts := [], laidByText := true, laidKinds := [.data], laidTests := true, laidLooks := .later }
def PolyRingUptoCardSaid : Prop := Claim7.holds Tryz.pinned (.plain (OpenSpec.upto polyRingSpec)) polyRingUptoCard
end Rows
end Go.Proofs.YtgecfnoecmjacaaGreatDoor
