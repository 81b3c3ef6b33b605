/-
  DERIVED. GIVEN WITH THE SEED: THE CARDS: each row of YtjpcdfgbfaeonaaGreatDoorRows.lean that lists a variable, with what it lists TIED to the program's text (the seventh form; the later family's looks); each row that meets fmt, with fmt's text TOLD by the authors' own Lean function (tested against real Go, not proved from fmt's source: count such statements apart). THE CARD IS WHAT COUNTS. Prove the row's statement (the work); the ties are given (YtjpcdfgbfaeonaaGreatDoorTie.lean); close each card by the builder's one call (the guide's Derived/Test/ToyasCard.lean, 'card_holds'). Laid BY PROGRAM, IN A SANDBOX (cutbox-door.mjs). By AI agents, Wed Nov 11 2026. No macro, syntax, notation, axiom, sorry.
-/
import Derived.Test.YtjpcdfgbfaeonaaGreatDoorRows
import GoSem.ClaimSeven
namespace Go.Proofs.YtjpcdfgbfaeonaaGreatDoor
namespace Rows

/-- THE TIED CARD OF 'ashlarlaw10.EuclidNone'. -/
def euclidNoneCard : Claim7 := { stood := { row := euclidNoneRow, standIns := [], harness := (true, "32a277a88391c36320891da6edb0bdaa644448e8bb3fa36c9af1821891b0142c"), looks := true }, kinds := [], alts := [], laidByText := true, laidKinds := [.data], laidTests := true, laidLooks := .later }
def EuclidNoneCardSaid : Prop := Claim7.holds Tryz.pinned (.plain (OpenSpec.ofChange euclidNoneSpec)) euclidNoneCard

/-- THE TIED CARD OF 'ashlarlaw11.SeqNone'. -/
def seqNoneCard : Claim7 := { stood := { row := seqNoneRow, standIns := [], harness := (true, "32a277a88391c36320891da6edb0bdaa644448e8bb3fa36c9af1821891b0142c"), looks := true }, kinds := [], alts := [], laidByText := true, laidKinds := [.data], laidTests := true, laidLooks := .later }
def SeqNoneCardSaid : Prop := Claim7.holds Tryz.pinned (.plain (OpenSpec.ofChange seqNoneSpec)) seqNoneCard

/-- THE SECOND FORM's CARD OF 'ashlarlaw10.EuclidNone'. -/
def euclidNoneUptoCard : Claim7 := { stood := { row := euclidNoneUptoRow, standIns := [], harness := (true, "32a277a88391c36320891da6edb0bdaa644448e8bb3fa36c9af1821891b0142c"), looks := true }, kinds := [], alts := [], laidByText := true, laidKinds := [.data], laidTests := true, laidLooks := .later }
def EuclidNoneUptoCardSaid : Prop := Claim7.holds Tryz.pinned (.plain (OpenSpec.upto euclidNoneSpec)) euclidNoneUptoCard

/-- THE SECOND FORM's CARD OF 'ashlarlaw11.SeqNone'. -/
def seqNoneUptoCard : Claim7 := { stood := { row := seqNoneUptoRow, standIns := [], harness := (true, "32a277a88391c36320891da6edb0bdaa644448e8bb3fa36c9af1821891b0142c"), looks := true }, kinds := [], alts := [], laidByText := true, laidKinds := [.data], laidTests := true, laidLooks := .later }
def SeqNoneUptoCardSaid : Prop := Claim7.holds Tryz.pinned (.plain (OpenSpec.upto seqNoneSpec)) seqNoneUptoCard
end Rows
end Go.Proofs.YtjpcdfgbfaeonaaGreatDoor
