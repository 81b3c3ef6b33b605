/-
  DERIVED. GIVEN WITH THE SEED: THE CARDS: each row of YtgjgdhihpdpmcaaDoorRows.lean that lists a variable, with what it lists TIED to the program's text (the seventh form; the later family's looks); each row that meets fmt, with fmt's text TOLD by the authors' own Lean function (tested against real Go, not proved from fmt's source: count such statements apart). THE CARD IS WHAT COUNTS. Prove the row's statement (the work); the ties are given (YtgjgdhihpdpmcaaDoorTie.lean); close each card by the builder's one call (the guide's Derived/Test/ToyasCard.lean, 'card_holds'). Laid BY PROGRAM, IN A SANDBOX (cutbox-door.mjs). By AI agents, Wed Nov 11 2026. No macro, syntax, notation, axiom, sorry.
-/
import Derived.Test.YtgjgdhihpdpmcaaDoorRows
import GoSem.ClaimSeven
namespace Go.Proofs.YtgjgdhihpdpmcaaDoor
namespace Rows

/-- THE TIED CARD OF 'ashlarlaw1.IntSums'. -/
def intSumsCard : Claim7 := { stood := { row := intSumsRow, standIns := [], harness := (true, "64ab6c9d45eb333716942a07357adccc218a32410c4921c2e174fdab3fab9d8e"), looks := false }, kinds := [], alts := [], laidByText := true, laidKinds := [.data, .pinned], laidTests := true, laidLooks := .later }
def IntSumsCardSaid : Prop := Claim7.holds Tryd.pinned (.plain (OpenSpec.ofChange intSumsSpec)) intSumsCard

/-- THE TIED CARD OF 'ashlarlaw1.IntQuo'. -/
def intQuoCard : Claim7 := { stood := { row := intQuoRow, standIns := [], harness := (true, "64ab6c9d45eb333716942a07357adccc218a32410c4921c2e174fdab3fab9d8e"), looks := false }, kinds := [], alts := [], laidByText := true, laidKinds := [.data, .pinned], laidTests := true, laidLooks := .later }
def IntQuoCardSaid : Prop := Claim7.holds Tryd.pinned (.plain (OpenSpec.ofChange intQuoSpec)) intQuoCard

/-- THE TIED CARD OF 'ashlarlaw1.IntGcd'. -/
def intGcdCard : Claim7 := { stood := { row := intGcdRow, standIns := [], harness := (true, "64ab6c9d45eb333716942a07357adccc218a32410c4921c2e174fdab3fab9d8e"), looks := false }, kinds := [], alts := [], laidByText := true, laidKinds := [.data, .pinned], laidTests := true, laidLooks := .later }
def IntGcdCardSaid : Prop := Claim7.holds Tryd.pinned (.plain (OpenSpec.ofChange intGcdSpec)) intGcdCard

/-- THE TIED CARD OF 'ashlarlaw1.IntPower'. -/
def intPowerCard : Claim7 := { stood := { row := intPowerRow, standIns := [], harness := (true, "64ab6c9d45eb333716942a07357adccc218a32410c4921c2e174fdab3fab9d8e"), looks := false }, kinds := [], alts := [], laidByText := true, laidKinds := [.data, .pinned], laidTests := true, laidLooks := .later }
def IntPowerCardSaid : Prop := Claim7.holds Tryd.pinned (.plain (OpenSpec.ofChange intPowerSpec)) intPowerCard

/-- THE TIED CARD OF 'ashlarlaw1.IntSmall'. -/
def intSmallCard : Claim7 := { stood := { row := intSmallRow, standIns := [], harness := (true, "64ab6c9d45eb333716942a07357adccc218a32410c4921c2e174fdab3fab9d8e"), looks := false }, kinds := [], alts := [], laidByText := true, laidKinds := [.data, .pinned], laidTests := true, laidLooks := .later }
def IntSmallCardSaid : Prop := Claim7.holds Tryd.pinned (.plain (OpenSpec.ofChange intSmallSpec)) intSmallCard

/-- THE TIED CARD OF 'ashlarlaw1.IntMod'. -/
def intModCard : Claim7 := { stood := { row := intModRow, standIns := [], harness := (true, "64ab6c9d45eb333716942a07357adccc218a32410c4921c2e174fdab3fab9d8e"), looks := false }, kinds := [], alts := [], laidByText := true, laidKinds := [.data, .pinned], laidTests := true, laidLooks := .later }
def IntModCardSaid : Prop := Claim7.holds Tryd.pinned (.plain (OpenSpec.ofChange intModSpec)) intModCard

/-- THE SECOND FORM's CARD OF 'ashlarlaw1.IntSums'. -/
def intSumsUptoCard : Claim7 := { stood := { row := intSumsUptoRow, standIns := [], harness := (true, "64ab6c9d45eb333716942a07357adccc218a32410c4921c2e174fdab3fab9d8e"), looks := false }, kinds := [], alts := [], laidByText := true, laidKinds := [.data, .pinned], laidTests := true, laidLooks := .later }
def IntSumsUptoCardSaid : Prop := Claim7.holds Tryd.pinned (.plain (OpenSpec.upto intSumsSpec)) intSumsUptoCard

/-- THE SECOND FORM's CARD OF 'ashlarlaw1.IntQuo'. -/
def intQuoUptoCard : Claim7 := { stood := { row := intQuoUptoRow, standIns := [], harness := (true, "64ab6c9d45eb333716942a07357adccc218a32410c4921c2e174fdab3fab9d8e"), looks := false }, kinds := [], alts := [], laidByText := true, laidKinds := [.data, .pinned], laidTests := true, laidLooks := .later }
def IntQuoUptoCardSaid : Prop := Claim7.holds Tryd.pinned (.plain (OpenSpec.upto intQuoSpec)) intQuoUptoCard

/-- THE SECOND FORM's CARD OF 'ashlarlaw1.IntGcd'. -/
def intGcdUptoCard : Claim7 := { stood := { row := intGcdUptoRow, standIns := [], harness := (true, "64ab6c9d45eb333716942a07357adccc218a32410c4921c2e174fdab3fab9d8e"), looks := false }, kinds := [], alts := [], laidByText := true, laidKinds := [.data, .pinned], laidTests := true, laidLooks := .later }
def IntGcdUptoCardSaid : Prop := Claim7.holds Tryd.pinned (.plain (OpenSpec.upto intGcdSpec)) intGcdUptoCard

/-- THE SECOND FORM's CARD OF 'ashlarlaw1.IntPower'. -/
def intPowerUptoCard : Claim7 := { stood := { row := intPowerUptoRow, standIns := [], harness := (true, "64ab6c9d45eb333716942a07357adccc218a32410c4921c2e174fdab3fab9d8e"), looks := false }, kinds := [], alts := [], laidByText := true, laidKinds := [.data, .pinned], laidTests := true, laidLooks := .later }
def IntPowerUptoCardSaid : Prop := Claim7.holds Tryd.pinned (.plain (OpenSpec.upto intPowerSpec)) intPowerUptoCard

/-- THE SECOND FORM's CARD OF 'ashlarlaw1.IntSmall'. -/
def intSmallUptoCard : Claim7 := { stood := { row := intSmallUptoRow, standIns := [], harness := (true, "64ab6c9d45eb333716942a07357adccc218a32410c4921c2e174fdab3fab9d8e"), looks := false }, kinds := [], alts := [], laidByText := true, laidKinds := [.data, .pinned], laidTests := true, laidLooks := .later }
def IntSmallUptoCardSaid : Prop := Claim7.holds Tryd.pinned (.plain (OpenSpec.upto intSmallSpec)) intSmallUptoCard

/-- THE SECOND FORM's CARD OF 'ashlarlaw1.IntMod'. -/
def intModUptoCard : Claim7 := { stood := { row := intModUptoRow, standIns := [], harness := (true, "64ab6c9d45eb333716942a07357adccc218a32410c4921c2e174fdab3fab9d8e"), looks := false }, kinds := [], alts := [], laidByText := true, laidKinds := [.data, .pinned], laidTests := true, laidLooks := .later }
def IntModUptoCardSaid : Prop := Claim7.holds Tryd.pinned (.plain (OpenSpec.upto intModSpec)) intModUptoCard
end Rows
end Go.Proofs.YtgjgdhihpdpmcaaDoor
