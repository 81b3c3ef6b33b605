/-
  DERIVED. GIVEN WITH THE SEED: THE CARDS: each row of YtejnhpjejcpekaaGreatDoorRows.lean that lists a variable, with what it lists TIED to the program's text (the seventh form; the later family's looks); each row that meets fmt, with fmt's text TOLD by the authors' own Lean function (tested against real Go, not proved from fmt's source: count such statements apart). THE CARD IS WHAT COUNTS. Prove the row's statement (the work); the ties are given (YtejnhpjejcpekaaGreatDoorTie.lean); close each card by the builder's one call (the guide's Derived/Test/ToyasCard.lean, 'card_holds'). Laid BY PROGRAM, IN A SANDBOX (cutbox-door.mjs). By AI agents, Wed Nov 11 2026. No macro, syntax, notation, axiom, sorry.
-/
import Derived.Test.YtejnhpjejcpekaaGreatDoorRows
import GoSem.ClaimSeven
namespace Go.Proofs.YtejnhpjejcpekaaGreatDoor
namespace Rows

/-- THE TIED CARD OF 'ashlarlaw4.RootsTimes'. -/
def rootsTimesCard : Claim7 := { stood := { row := rootsTimesRow, standIns := [], harness := (true, "701cc98d0f581b59b80ef4630353a035cf26294b504db5a3200ba9cffdf7af62"), looks := true }, kinds := [], alts := [], laidByText := true, laidKinds := [.data], laidTests := true, laidLooks := .later }
def RootsTimesCardSaid : Prop := Claim7.holds Tryz.pinned (.plain (OpenSpec.ofChange rootsTimesSpec)) rootsTimesCard

/-- THE TIED CARD OF 'ashlarlaw4.RootsWith'. -/
def rootsWithCard : Claim7 := { stood := { row := rootsWithRow, standIns := [], harness := (true, "701cc98d0f581b59b80ef4630353a035cf26294b504db5a3200ba9cffdf7af62"), looks := true }, kinds := [], alts := [], laidByText := true, laidKinds := [.data], laidTests := true, laidLooks := .later }
def RootsWithCardSaid : Prop := Claim7.holds Tryz.pinned (.plain (OpenSpec.ofChange rootsWithSpec)) rootsWithCard

/-- THE TIED CARD OF 'ashlarlaw8.OreMul'. -/
def oreMulCard : Claim7 := { stood := { row := oreMulRow, standIns := [], harness := (true, "701cc98d0f581b59b80ef4630353a035cf26294b504db5a3200ba9cffdf7af62"), looks := true }, kinds := [], alts := [], laidByText := true, laidKinds := [.data], laidTests := true, laidLooks := .later }
def OreMulCardSaid : Prop := Claim7.holds Tryz.pinned (.plain (OpenSpec.ofChange oreMulSpec)) oreMulCard

/-- THE TIED CARD OF 'ashlarlaw8.OreActs'. -/
def oreActsCard : Claim7 := { stood := { row := oreActsRow, standIns := [], harness := (true, "701cc98d0f581b59b80ef4630353a035cf26294b504db5a3200ba9cffdf7af62"), looks := true }, kinds := [], alts := [], laidByText := true, laidKinds := [.data], laidTests := true, laidLooks := .later }
def OreActsCardSaid : Prop := Claim7.holds Tryz.pinned (.plain (OpenSpec.ofChange oreActsSpec)) oreActsCard

/-- THE TIED CARD OF 'ashlarlaw8.OreRing'. -/
def oreRingCard : Claim7 := { stood := { row := oreRingRow, standIns := [], harness := (true, "701cc98d0f581b59b80ef4630353a035cf26294b504db5a3200ba9cffdf7af62"), looks := true }, kinds := [], alts := [], laidByText := true, laidKinds := [.data], laidTests := true, laidLooks := .later }
def OreRingCardSaid : Prop := Claim7.holds Tryz.pinned (.plain (OpenSpec.ofChange oreRingSpec)) oreRingCard

/-- THE TIED CARD OF 'ashlarlaw12.TermLong'. -/
def termLongCard : Claim7 := { stood := { row := termLongRow, standIns := [], harness := (true, "701cc98d0f581b59b80ef4630353a035cf26294b504db5a3200ba9cffdf7af62"), looks := true }, kinds := [], alts := [], laidByText := true, laidKinds := [.data], laidTests := true, laidLooks := .later }
def TermLongCardSaid : Prop := Claim7.holds Tryz.pinned (.plain (OpenSpec.ofChange termLongSpec)) termLongCard

/-- THE SECOND FORM's CARD OF 'ashlarlaw4.RootsTimes'. -/
def rootsTimesUptoCard : Claim7 := { stood := { row := rootsTimesUptoRow, standIns := [], harness := (true, "701cc98d0f581b59b80ef4630353a035cf26294b504db5a3200ba9cffdf7af62"), looks := true }, kinds := [], alts := [], laidByText := true, laidKinds := [.data], laidTests := true, laidLooks := .later }
def RootsTimesUptoCardSaid : Prop := Claim7.holds Tryz.pinned (.plain (OpenSpec.upto rootsTimesSpec)) rootsTimesUptoCard

/-- THE SECOND FORM's CARD OF 'ashlarlaw4.RootsWith'. -/
def rootsWithUptoCard : Claim7 := { stood := { row := rootsWithUptoRow, standIns := [], harness := (true, "701cc98d0f581b59b80ef4630353a035cf26294b504db5a3200ba9cffdf7af62"), looks := true }, kinds := [], alts := [], laidByText := true, laidKinds := [.data], laidTests := true, laidLooks := .later }
def RootsWithUptoCardSaid : Prop := Claim7.holds Tryz.pinned (.plain (OpenSpec.upto rootsWithSpec)) rootsWithUptoCard

/-- THE SECOND FORM's CARD OF 'ashlarlaw8.OreMul'. -/
def oreMulUptoCard : Claim7 := { stood := { row := oreMulUptoRow, standIns := [], harness := (true, "701cc98d0f581b59b80ef4630353a035cf26294b504db5a3200ba9cffdf7af62"), looks := true }, kinds := [], alts := [], laidByText := true, laidKinds := [.data], laidTests := true, laidLooks := .later }
def OreMulUptoCardSaid : Prop := Claim7.holds Tryz.pinned (.plain (OpenSpec.upto oreMulSpec)) oreMulUptoCard

/-- THE SECOND FORM's CARD OF 'ashlarlaw8.OreActs'. -/
def oreActsUptoCard : Claim7 := { stood := { row := oreActsUptoRow, standIns := [], harness := (true, "701cc98d0f581b59b80ef4630353a035cf26294b504db5a3200ba9cffdf7af62"), looks := true }, kinds := [], alts := [], laidByText := true, laidKinds := [.data], laidTests := true, laidLooks := .later }
def OreActsUptoCardSaid : Prop := Claim7.holds Tryz.pinned (.plain (OpenSpec.upto oreActsSpec)) oreActsUptoCard

/-- THE SECOND FORM's CARD OF 'ashlarlaw8.OreRing'. -/
def oreRingUptoCard : Claim7 := { stood := { row := oreRingUptoRow, standIns := [], harness := (true, "701cc98d0f581b59b80ef4630353a035cf26294b504db5a3200ba9cffdf7af62"), looks := true }, kinds := [], alts := [], laidByText := true, laidKinds := [.data], laidTests := true, laidLooks := .later }
def OreRingUptoCardSaid : Prop := Claim7.holds Tryz.pinned (.plain (OpenSpec.upto oreRingSpec)) oreRingUptoCard

/-- THE SECOND FORM's CARD OF 'ashlarlaw12.TermLong'. -/
def termLongUptoCard : Claim7 := { stood := { row := termLongUptoRow, standIns := [], harness := (true, "701cc98d0f581b59b80ef4630353a035cf26294b504db5a3200ba9cffdf7af62"), looks := true }, kinds := [], alts := [], laidByText := true, laidKinds := [.data], laidTests := true, laidLooks := .later }
def TermLongUptoCardSaid : Prop := Claim7.holds Tryz.pinned (.plain (OpenSpec.upto termLongSpec)) termLongUptoCard
end Rows
end Go.Proofs.YtejnhpjejcpekaaGreatDoor
