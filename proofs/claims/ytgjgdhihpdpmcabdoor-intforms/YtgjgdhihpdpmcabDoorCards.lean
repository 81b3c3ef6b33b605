/-
  DERIVED. GIVEN WITH THE SEED: THE CARDS: each row of YtgjgdhihpdpmcabDoorRows.lean that lists a variable, with what it lists TIED to the program's text (the seventh form; the later family's looks); each row that meets fmt, with fmt's text TOLD by the authors' own Lean function (tested against real Go, not proved from fmt's source: count such statements apart). THE CARD IS WHAT COUNTS. Prove the row's statement (the work); the ties are given (YtgjgdhihpdpmcabDoorTie.lean); close each card by the builder's one call (the guide's Derived/Test/ToyasCard.lean, 'card_holds'). Laid BY PROGRAM, IN A SANDBOX (cutbox-door.mjs). By AI agents, Wed Nov 11 2026. No macro, syntax, notation, axiom, sorry.
-/
import Derived.Test.YtgjgdhihpdpmcabDoorRows
import GoSem.ClaimSeven
namespace Go.Proofs.YtgjgdhihpdpmcabDoor
namespace Rows

/-- THE TIED CARD OF 'ashlarlaw1.IntText'. -/
def intTextCard : Claim7 := { stood := { row := intTextRow, standIns := [], harness := (true, "da34235d790c31ec3731d8eab62fe51e5504e27281ca96c89638adddf56884fe"), looks := false }, kinds := [], alts := [], laidByText := true, laidKinds := [.data, .pinned], laidTests := true, laidLooks := .later }
def IntTextCardSaid : Prop := Claim7.holds Tryd.pinned (.plain (OpenSpec.ofChange intTextSpec)) intTextCard

/-- THE TIED CARD OF 'ashlarlaw1.IntRing'. -/
def intRingCard : Claim7 := { stood := { row := intRingRow, standIns := [], harness := (true, "da34235d790c31ec3731d8eab62fe51e5504e27281ca96c89638adddf56884fe"), looks := false }, kinds := [], alts := [], laidByText := true, laidKinds := [.data, .pinned], laidTests := true, laidLooks := .later }
def IntRingCardSaid : Prop := Claim7.holds Tryd.pinned (.plain (OpenSpec.ofChange intRingSpec)) intRingCard

/-- THE TIED CARD OF 'ashlarlaw1.IntForms'. -/
def intFormsCard : Claim7 := { stood := { row := intFormsRow, standIns := [], harness := (true, "da34235d790c31ec3731d8eab62fe51e5504e27281ca96c89638adddf56884fe"), looks := false }, kinds := [], alts := [], laidByText := true, laidKinds := [.data, .pinned], laidTests := true, laidLooks := .later }
def IntFormsCardSaid : Prop := Claim7.holds Tryd.pinned (.plain (OpenSpec.ofChange intFormsSpec)) intFormsCard

/-- THE SECOND FORM's CARD OF 'ashlarlaw1.IntText'. -/
def intTextUptoCard : Claim7 := { stood := { row := intTextUptoRow, standIns := [], harness := (true, "da34235d790c31ec3731d8eab62fe51e5504e27281ca96c89638adddf56884fe"), looks := false }, kinds := [], alts := [], laidByText := true, laidKinds := [.data, .pinned], laidTests := true, laidLooks := .later }
def IntTextUptoCardSaid : Prop := Claim7.holds Tryd.pinned (.plain (OpenSpec.upto intTextSpec)) intTextUptoCard

/-- THE SECOND FORM's CARD OF 'ashlarlaw1.IntRing'. -/
def intRingUptoCard : Claim7 := { stood := { row := intRingUptoRow, standIns := [], harness := (true, "da34235d790c31ec3731d8eab62fe51e5504e27281ca96c89638adddf56884fe"), looks := false }, kinds := [], alts := [], laidByText := true, laidKinds := [.data, .pinned], laidTests := true, laidLooks := .later }
def IntRingUptoCardSaid : Prop := Claim7.holds Tryd.pinned (.plain (OpenSpec.upto intRingSpec)) intRingUptoCard

/-- THE SECOND FORM's CARD OF 'ashlarlaw1.IntForms'. -/
def intFormsUptoCard : Claim7 := { stood := { row := intFormsUptoRow, standIns := [], harness := (true, "da34235d790c31ec3731d8eab62fe51e5504e27281ca96c89638adddf56884fe"), looks := false }, kinds := [], alts := [], laidByText := true, laidKinds := [.data, .pinned], laidTests := true, laidLooks := .later }
def IntFormsUptoCardSaid : Prop := Claim7.holds Tryd.pinned (.plain (OpenSpec.upto intFormsSpec)) intFormsUptoCard
end Rows
end Go.Proofs.YtgjgdhihpdpmcabDoor
