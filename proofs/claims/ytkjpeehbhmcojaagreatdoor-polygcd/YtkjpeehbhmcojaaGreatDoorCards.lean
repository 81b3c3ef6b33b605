/-
  DERIVED. GIVEN WITH THE SEED: THE CARDS: each row of YtkjpeehbhmcojaaGreatDoorRows.lean that lists a variable, with what it lists TIED to the program's text (the seventh form; the later family's looks); each row that meets fmt, with fmt's text TOLD by the authors' own Lean function (tested against real Go, not proved from fmt's source: count such statements apart). THE CARD IS WHAT COUNTS. Prove the row's statement (the work); the ties are given (YtkjpeehbhmcojaaGreatDoorTie.lean); close each card by the builder's one call (the guide's Derived/Test/ToyasCard.lean, 'card_holds'). Laid BY PROGRAM, IN A SANDBOX (cutbox-door.mjs). By AI agents, Wed Nov 11 2026. No macro, syntax, notation, axiom, sorry.
-/
import Derived.Test.YtkjpeehbhmcojaaGreatDoorRows
import GoSem.ClaimSeven
namespace Go.Proofs.YtkjpeehbhmcojaaGreatDoor
namespace Rows

/-- THE TIED CARD OF 'ashlarlaw3.PolyExact'. -/
def polyExactCard : Claim7 := { stood := { row := polyExactRow, standIns := [], harness := (true, "876ae91678e92c37818e015e20fcdf37cea0e1334b9063119016273a08bdf4df"), looks := false }, kinds := [], alts := [], laidByText := true, laidKinds := [.data], laidTests := true, laidLooks := .later }
def PolyExactCardSaid : Prop := Claim7.holds Tryz.pinned (.plain (OpenSpec.ofChange polyExactSpec)) polyExactCard

/-- THE TIED CARD OF 'ashlarlaw3.PolyGcd'. -/
def polyGcdCard : Claim7 := { stood := { row := polyGcdRow, standIns := [], harness := (true, "876ae91678e92c37818e015e20fcdf37cea0e1334b9063119016273a08bdf4df"), looks := false }, kinds := [], alts := [], laidByText := true, laidKinds := [.data], laidTests := true, laidLooks := .later }
def PolyGcdCardSaid : Prop := Claim7.holds Tryz.pinned (.plain (OpenSpec.ofChange polyGcdSpec)) polyGcdCard

/-- THE SECOND FORM's CARD OF 'ashlarlaw3.PolyExact'. -/
def polyExactUptoCard : Claim7 := { stood := { row := polyExactUptoRow, standIns := [], harness := (true, "876ae91678e92c37818e015e20fcdf37cea0e1334b9063119016273a08bdf4df"), looks := false }, kinds := [], alts := [], laidByText := true, laidKinds := [.data], laidTests := true, laidLooks := .later }
def PolyExactUptoCardSaid : Prop := Claim7.holds Tryz.pinned (.plain (OpenSpec.upto polyExactSpec)) polyExactUptoCard

/-- THE SECOND FORM's CARD OF 'ashlarlaw3.PolyGcd'. -/
def polyGcdUptoCard : Claim7 := { stood := { row := polyGcdUptoRow, standIns := [], harness := (true, "876ae91678e92c37818e015e20fcdf37cea0e1334b9063119016273a08bdf4df"), looks := false }, kinds := [], alts := [], laidByText := true, laidKinds := [.data], laidTests := true, laidLooks := .later }
def PolyGcdUptoCardSaid : Prop := Claim7.holds Tryz.pinned (.plain (OpenSpec.upto polyGcdSpec)) polyGcdUptoCard
end Rows
end Go.Proofs.YtkjpeehbhmcojaaGreatDoor
