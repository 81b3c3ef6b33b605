/-
  DERIVED. GIVEN WITH THE SEED: THE CARDS: each row of YtifebbacnlhggaaGreatDoorRows.lean that lists a variable, with what it lists TIED to the program's text (the seventh form; the later family's looks); each row that meets fmt, with fmt's text TOLD by the authors' own Lean function (tested against real Go, not proved from fmt's source: count such statements apart). THE CARD IS WHAT COUNTS. Prove the row's statement (the work); the ties are given (YtifebbacnlhggaaGreatDoorTie.lean); close each card by the builder's one call (the guide's Derived/Test/ToyasCard.lean, 'card_holds'). Laid BY PROGRAM, IN A SANDBOX (cutbox-door.mjs). By AI agents, Wed Nov 11 2026. No macro, syntax, notation, axiom, sorry.
-/
import Derived.Test.YtifebbacnlhggaaGreatDoorRows
import GoSem.ClaimSeven
namespace Go.Proofs.YtifebbacnlhggaaGreatDoor
namespace Rows

/-- THE TIED CARD OF 'ashlarlaw8.OreNew'. -/
def oreNewCard : Claim7 := { stood := { row := oreNewRow, standIns := [], harness := (true, "bae36cd58b758b8ba71677ca0755f0e955fc19d370db78be491ec16b64c3f787"), looks := false }, kinds := [], alts := [], laidByText := true, laidKinds := [.data], laidTests := true, laidLooks := .later }
def OreNewCardSaid : Prop := Claim7.holds Tryz.pinned (.plain (OpenSpec.ofChange oreNewSpec)) oreNewCard

/-- THE TIED CARD OF 'ashlarlaw8.OreMul'. -/
def oreMulCard : Claim7 := { stood := { row := oreMulRow, standIns := [], harness := (true, "bae36cd58b758b8ba71677ca0755f0e955fc19d370db78be491ec16b64c3f787"), looks := false }, kinds := [], alts := [], laidByText := true, laidKinds := [.data], laidTests := true, laidLooks := .later }
def OreMulCardSaid : Prop := Claim7.holds Tryz.pinned (.plain (OpenSpec.ofChange oreMulSpec)) oreMulCard

/-- THE TIED CARD OF 'ashlarlaw8.OrePower'. -/
def orePowerCard : Claim7 := { stood := { row := orePowerRow, standIns := [], harness := (true, "bae36cd58b758b8ba71677ca0755f0e955fc19d370db78be491ec16b64c3f787"), looks := false }, kinds := [], alts := [], laidByText := true, laidKinds := [.data], laidTests := true, laidLooks := .later }
def OrePowerCardSaid : Prop := Claim7.holds Tryz.pinned (.plain (OpenSpec.ofChange orePowerSpec)) orePowerCard

/-- THE TIED CARD OF 'ashlarlaw8.OreApply'. -/
def oreApplyCard : Claim7 := { stood := { row := oreApplyRow, standIns := [], harness := (true, "bae36cd58b758b8ba71677ca0755f0e955fc19d370db78be491ec16b64c3f787"), looks := false }, kinds := [], alts := [], laidByText := true, laidKinds := [.data], laidTests := true, laidLooks := .later }
def OreApplyCardSaid : Prop := Claim7.holds Tryz.pinned (.plain (OpenSpec.ofChange oreApplySpec)) oreApplyCard

/-- THE TIED CARD OF 'ashlarlaw8.OreActs'. -/
def oreActsCard : Claim7 := { stood := { row := oreActsRow, standIns := [], harness := (true, "bae36cd58b758b8ba71677ca0755f0e955fc19d370db78be491ec16b64c3f787"), looks := false }, kinds := [], alts := [], laidByText := true, laidKinds := [.data], laidTests := true, laidLooks := .later }
def OreActsCardSaid : Prop := Claim7.holds Tryz.pinned (.plain (OpenSpec.ofChange oreActsSpec)) oreActsCard

/-- THE TIED CARD OF 'ashlarlaw8.OreRing'. -/
def oreRingCard : Claim7 := { stood := { row := oreRingRow, standIns := [], harness := (true, "bae36cd58b758b8ba71677ca0755f0e955fc19d370db78be491ec16b64c3f787"), looks := false }, kinds := [], alts := [], laidByText := true, laidKinds := [.data], laidTests := true, laidLooks := .later }
def OreRingCardSaid : Prop := Claim7.holds Tryz.pinned (.plain (OpenSpec.ofChange oreRingSpec)) oreRingCard

/-- THE SECOND FORM's CARD OF 'ashlarlaw8.OreNew'. -/
def oreNewUptoCard : Claim7 := { stood := { row := oreNewUptoRow, standIns := [], harness := (true, "bae36cd58b758b8ba71677ca0755f0e955fc19d370db78be491ec16b64c3f787"), looks := false }, kinds := [], alts := [], laidByText := true, laidKinds := [.data], laidTests := true, laidLooks := .later }
def OreNewUptoCardSaid : Prop := Claim7.holds Tryz.pinned (.plain (OpenSpec.upto oreNewSpec)) oreNewUptoCard

/-- THE SECOND FORM's CARD OF 'ashlarlaw8.OreMul'. -/
def oreMulUptoCard : Claim7 := { stood := { row := oreMulUptoRow, standIns := [], harness := (true, "bae36cd58b758b8ba71677ca0755f0e955fc19d370db78be491ec16b64c3f787"), looks := false }, kinds := [], alts := [], laidByText := true, laidKinds := [.data], laidTests := true, laidLooks := .later }
def OreMulUptoCardSaid : Prop := Claim7.holds Tryz.pinned (.plain (OpenSpec.upto oreMulSpec)) oreMulUptoCard

/-- THE SECOND FORM's CARD OF 'ashlarlaw8.OrePower'. -/
def orePowerUptoCard : Claim7 := { stood := { row := orePowerUptoRow, standIns := [], harness := (true, "bae36cd58b758b8ba71677ca0755f0e955fc19d370db78be491ec16b64c3f787"), looks := false }, kinds := [], alts := [], laidByText := true, laidKinds := [.data], laidTests := true, laidLooks := .later }
def OrePowerUptoCardSaid : Prop := Claim7.holds Tryz.pinned (.plain (OpenSpec.upto orePowerSpec)) orePowerUptoCard

/-- THE SECOND FORM's CARD OF 'ashlarlaw8.OreApply'. -/
def oreApplyUptoCard : Claim7 := { stood := { row := oreApplyUptoRow, standIns := [], harness := (true, "bae36cd58b758b8ba71677ca0755f0e955fc19d370db78be491ec16b64c3f787"), looks := false }, kinds := [], alts := [], laidByText := true, laidKinds := [.data], laidTests := true, laidLooks := .later }
def OreApplyUptoCardSaid : Prop := Claim7.holds Tryz.pinned (.plain (OpenSpec.upto oreApplySpec)) oreApplyUptoCard

/-- THE SECOND FORM's CARD OF 'ashlarlaw8.OreActs'. -/
def oreActsUptoCard : Claim7 := { stood := { row := oreActsUptoRow, standIns := [], harness := (true, "bae36cd58b758b8ba71677ca0755f0e955fc19d370db78be491ec16b64c3f787"), looks := false }, kinds := [], alts := [], laidByText := true, laidKinds := [.data], laidTests := true, laidLooks := .later }
def OreActsUptoCardSaid : Prop := Claim7.holds Tryz.pinned (.plain (OpenSpec.upto oreActsSpec)) oreActsUptoCard

/-- THE SECOND FORM's CARD OF 'ashlarlaw8.OreRing'. -/
def oreRingUptoCard : Claim7 := { stood := { row := oreRingUptoRow, standIns := [], harness := (true, "bae36cd58b758b8ba71677ca0755f0e955fc19d370db78be491ec16b64c3f787"), looks := false }, kinds := [], alts := [], laidByText := true, laidKinds := [.data], laidTests := true, laidLooks := .later }
def OreRingUptoCardSaid : Prop := Claim7.holds Tryz.pinned (.plain (OpenSpec.upto oreRingSpec)) oreRingUptoCard
end Rows
end Go.Proofs.YtifebbacnlhggaaGreatDoor
