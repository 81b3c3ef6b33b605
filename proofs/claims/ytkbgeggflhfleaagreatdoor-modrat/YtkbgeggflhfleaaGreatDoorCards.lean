/-
  DERIVED. GIVEN WITH THE SEED: THE CARDS: each row of YtkbgeggflhfleaaGreatDoorRows.lean that lists a variable, with what it lists TIED to the program's text (the seventh form; the later family's looks); each row that meets fmt, with fmt's text TOLD by the authors' own Lean function (tested against real Go, not proved from fmt's source: count such statements apart). THE CARD IS WHAT COUNTS. Prove the row's statement (the work); the ties are given (YtkbgeggflhfleaaGreatDoorTie.lean); close each card by the builder's one call (the guide's Derived/Test/ToyasCard.lean, 'card_holds'). Laid BY PROGRAM, IN A SANDBOX (cutbox-door.mjs). By AI agents, Wed Nov 11 2026. No macro, syntax, notation, axiom, sorry.
-/
import Derived.Test.YtkbgeggflhfleaaGreatDoorRows
import GoSem.ClaimSeven
namespace Go.Proofs.YtkbgeggflhfleaaGreatDoor
namespace Rows

/-- THE TIED CARD OF 'ashlarlaw14.ModPrime'. -/
def modPrimeCard : Claim7 := { stood := { row := modPrimeRow, standIns := [], harness := (true, "0b464311cec07ce00af1ef137ca8d3a7c08ecdd666998e5cfdd9dd39bc96e6b3"), looks := true }, kinds := [], alts := [], laidByText := true, laidKinds := [.data], laidTests := true, laidLooks := .later }
def ModPrimeCardSaid : Prop := Claim7.holds Tryz.pinned (.plain (OpenSpec.ofChange modPrimeSpec)) modPrimeCard

/-- THE TIED CARD OF 'ashlarlaw14.ModInverse'. -/
def modInverseCard : Claim7 := { stood := { row := modInverseRow, standIns := [], harness := (true, "0b464311cec07ce00af1ef137ca8d3a7c08ecdd666998e5cfdd9dd39bc96e6b3"), looks := true }, kinds := [], alts := [], laidByText := true, laidKinds := [.data], laidTests := true, laidLooks := .later }
def ModInverseCardSaid : Prop := Claim7.holds Tryz.pinned (.plain (OpenSpec.ofChange modInverseSpec)) modInverseCard

/-- THE TIED CARD OF 'ashlarlaw14.ModRat'. -/
def modRatCard : Claim7 := { stood := { row := modRatRow, standIns := [], harness := (true, "0b464311cec07ce00af1ef137ca8d3a7c08ecdd666998e5cfdd9dd39bc96e6b3"), looks := true }, kinds := [], alts := [], laidByText := true, laidKinds := [.data], laidTests := true, laidLooks := .later }
def ModRatCardSaid : Prop := Claim7.holds Tryz.pinned (.plain (OpenSpec.ofChange modRatSpec)) modRatCard

/-- THE TIED CARD OF 'ashlarlaw14.ModTerm'. -/
def modTermCard : Claim7 := { stood := { row := modTermRow, standIns := [], harness := (true, "0b464311cec07ce00af1ef137ca8d3a7c08ecdd666998e5cfdd9dd39bc96e6b3"), looks := true }, kinds := [], alts := [], laidByText := true, laidKinds := [.data], laidTests := true, laidLooks := .later }
def ModTermCardSaid : Prop := Claim7.holds Tryz.pinned (.plain (OpenSpec.ofChange modTermSpec)) modTermCard

/-- THE TIED CARD OF 'ashlarlaw14.ModImage'. -/
def modImageCard : Claim7 := { stood := { row := modImageRow, standIns := [], harness := (true, "0b464311cec07ce00af1ef137ca8d3a7c08ecdd666998e5cfdd9dd39bc96e6b3"), looks := true }, kinds := [], alts := [], laidByText := true, laidKinds := [.data], laidTests := true, laidLooks := .later }
def ModImageCardSaid : Prop := Claim7.holds Tryz.pinned (.plain (OpenSpec.ofChange modImageSpec)) modImageCard

/-- THE SECOND FORM's CARD OF 'ashlarlaw14.ModPrime'. -/
def modPrimeUptoCard : Claim7 := { stood := { row := modPrimeUptoRow, standIns := [], harness := (true, "0b464311cec07ce00af1ef137ca8d3a7c08ecdd666998e5cfdd9dd39bc96e6b3"), looks := true }, kinds := [], alts := [], laidByText := true, laidKinds := [.data], laidTests := true, laidLooks := .later }
def ModPrimeUptoCardSaid : Prop := Claim7.holds Tryz.pinned (.plain (OpenSpec.upto modPrimeSpec)) modPrimeUptoCard

/-- THE SECOND FORM's CARD OF 'ashlarlaw14.ModInverse'. -/
def modInverseUptoCard : Claim7 := { stood := { row := modInverseUptoRow, standIns := [], harness := (true, "0b464311cec07ce00af1ef137ca8d3a7c08ecdd666998e5cfdd9dd39bc96e6b3"), looks := true }, kinds := [], alts := [], laidByText := true, laidKinds := [.data], laidTests := true, laidLooks := .later }
def ModInverseUptoCardSaid : Prop := Claim7.holds Tryz.pinned (.plain (OpenSpec.upto modInverseSpec)) modInverseUptoCard

/-- THE SECOND FORM's CARD OF 'ashlarlaw14.ModRat'. -/
def modRatUptoCard : Claim7 := { stood := { row := modRatUptoRow, standIns := [], harness := (true, "0b464311cec07ce00af1ef137ca8d3a7c08ecdd666998e5cfdd9dd39bc96e6b3"), looks := true }, kinds := [], alts := [], laidByText := true, laidKinds := [.data], laidTests := true, laidLooks := .later }
def ModRatUptoCardSaid : Prop := Claim7.holds Tryz.pinned (.plain (OpenSpec.upto modRatSpec)) modRatUptoCard

/-- THE SECOND FORM's CARD OF 'ashlarlaw14.ModTerm'. -/
def modTermUptoCard : Claim7 := { stood := { row := modTermUptoRow, standIns := [], harness := (true, "0b464311cec07ce00af1ef137ca8d3a7c08ecdd666998e5cfdd9dd39bc96e6b3"), looks := true }, kinds := [], alts := [], laidByText := true, laidKinds := [.data], laidTests := true, laidLooks := .later }
def ModTermUptoCardSaid : Prop := Claim7.holds Tryz.pinned (.plain (OpenSpec.upto modTermSpec)) modTermUptoCard

/-- THE SECOND FORM's CARD OF 'ashlarlaw14.ModImage'. -/
def modImageUptoCard : Claim7 := { stood := { row := modImageUptoRow, standIns := [], harness := (true, "0b464311cec07ce00af1ef137ca8d3a7c08ecdd666998e5cfdd9dd39bc96e6b3"), looks := true }, kinds := [], alts := [], laidByText := true, laidKinds := [.data], laidTests := true, laidLooks := .later }
def ModImageUptoCardSaid : Prop := Claim7.holds Tryz.pinned (.plain (OpenSpec.upto modImageSpec)) modImageUptoCard
end Rows
end Go.Proofs.YtkbgeggflhfleaaGreatDoor
