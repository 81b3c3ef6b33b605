/-
  DERIVED. GIVEN WITH THE SEED: THE CARDS: each row of YtgdbhgpabehcfaaDoorRows.lean that lists a variable, with what it lists TIED to the program's text (the seventh form; the later family's looks); each row that meets fmt, with fmt's text TOLD by the authors' own Lean function (tested against real Go, not proved from fmt's source: count such statements apart). THE CARD IS WHAT COUNTS. Prove the row's statement (the work); the ties are given (YtgdbhgpabehcfaaDoorTie.lean); close each card by the builder's one call (the guide's Derived/Test/ToyasCard.lean, 'card_holds'). Laid BY PROGRAM, IN A SANDBOX (cutbox-door.mjs). By AI agents, Wed Nov 11 2026. No macro, syntax, notation, axiom, sorry.
-/
import Derived.Test.YtgdbhgpabehcfaaDoorRows
import GoSem.ClaimSeven
namespace Go.Proofs.YtgdbhgpabehcfaaDoor
namespace Rows

/-- THE TIED CARD OF 'ashlarlaw1.IntGcd'. -/
def intGcdCard : Claim7 := { stood := { row := intGcdRow, standIns := [], harness := (true, "b8ee9d52c328a3217994312a3be4b8b6c9c97c5ea8771c44066422199a10d23a"), looks := false }, kinds := [], alts := [], laidByText := true, laidKinds := [.data, .pinned], laidTests := true, laidLooks := .later }
def IntGcdCardSaid : Prop := Claim7.holds Tryd.pinned (.plain (OpenSpec.ofChange intGcdSpec)) intGcdCard

/-- THE TIED CARD OF 'ashlarlaw1.IntPower'. -/
def intPowerCard : Claim7 := { stood := { row := intPowerRow, standIns := [], harness := (true, "b8ee9d52c328a3217994312a3be4b8b6c9c97c5ea8771c44066422199a10d23a"), looks := false }, kinds := [], alts := [], laidByText := true, laidKinds := [.data, .pinned], laidTests := true, laidLooks := .later }
def IntPowerCardSaid : Prop := Claim7.holds Tryd.pinned (.plain (OpenSpec.ofChange intPowerSpec)) intPowerCard

/-- THE TIED CARD OF 'ashlarlaw1.IntText'. -/
def intTextCard : Claim7 := { stood := { row := intTextRow, standIns := [], harness := (true, "b8ee9d52c328a3217994312a3be4b8b6c9c97c5ea8771c44066422199a10d23a"), looks := false }, kinds := [], alts := [], laidByText := true, laidKinds := [.data, .pinned], laidTests := true, laidLooks := .later }
def IntTextCardSaid : Prop := Claim7.holds Tryd.pinned (.plain (OpenSpec.ofChange intTextSpec)) intTextCard

/-- THE SECOND FORM's CARD OF 'ashlarlaw1.IntGcd'. -/
def intGcdUptoCard : Claim7 := { stood := { row := intGcdUptoRow, standIns := [], harness := (true, "b8ee9d52c328a3217994312a3be4b8b6c9c97c5ea8771c44066422199a10d23a"), looks := false }, kinds := [], alts := [], laidByText := true, laidKinds := [.data, .pinned], laidTests := true, laidLooks := .later }
def IntGcdUptoCardSaid : Prop := Claim7.holds Tryd.pinned (.plain (OpenSpec.upto intGcdSpec)) intGcdUptoCard

/-- THE SECOND FORM's CARD OF 'ashlarlaw1.IntPower'. -/
def intPowerUptoCard : Claim7 := { stood := { row := intPowerUptoRow, standIns := [], harness := (true, "b8ee9d52c328a3217994312a3be4b8b6c9c97c5ea8771c44066422199a10d23a"), looks := false }, kinds := [], alts := [], laidByText := true, laidKinds := [.data, .pinned], laidTests := true, laidLooks := .later }
def IntPowerUptoCardSaid : Prop := Claim7.holds Tryd.pinned (.plain (OpenSpec.upto intPowerSpec)) intPowerUptoCard

/-- THE SECOND FORM's CARD OF 'ashlarlaw1.IntText'. -/
def intTextUptoCard : Claim7 := { stood := { row := intTextUptoRow, standIns := [], harness := (true, "b8ee9d52c328a3217994312a3be4b8b6c9c97c5ea8771c44066422199a10d23a"), looks := false }, kinds := [], alts := [], laidByText := true, laidKinds := [.data, .pinned], laidTests := true, laidLooks := .later }
def IntTextUptoCardSaid : Prop := Claim7.holds Tryd.pinned (.plain (OpenSpec.upto intTextSpec)) intTextUptoCard
end Rows
end Go.Proofs.YtgdbhgpabehcfaaDoor
