/-
  DERIVED. GIVEN WITH THE SEED: THE CARDS: each row of YtebdbfbicbndlaaGreatDoorRows.lean that lists a variable, with what it lists TIED to the program's text (the seventh form; the later family's looks); each row that meets fmt, with fmt's text TOLD by the authors' own Lean function (tested against real Go, not proved from fmt's source: count such statements apart). THE CARD IS WHAT COUNTS. Prove the row's statement (the work); the ties are given (YtebdbfbicbndlaaGreatDoorTie.lean); close each card by the builder's one call (the guide's Derived/Test/ToyasCard.lean, 'card_holds'). Laid BY PROGRAM, IN A SANDBOX (cutbox-door.mjs). By AI agents, Wed Nov 11 2026. No macro, syntax, notation, axiom, sorry.
-/
import Derived.Test.YtebdbfbicbndlaaGreatDoorRows
import GoSem.ClaimSeven
namespace Go.Proofs.YtebdbfbicbndlaaGreatDoor
namespace Rows

/-- THE TIED CARD OF 'ashlarlaw3.PolyOf'. -/
def polyOfCard : Claim7 := { stood := { row := polyOfRow, standIns := [], harness := (true, "f2fb1b395ad9dc487fd1f0030813d74200d5e4b9f0f2eba71f898273ee820a70"), looks := false }, kinds := [], alts := [], laidByText := true, laidKinds := [.data], laidTests := true, laidLooks := .later }
def PolyOfCardSaid : Prop := Claim7.holds Tryz.pinned (.plain (OpenSpec.ofChange polyOfSpec)) polyOfCard

/-- THE SECOND FORM's CARD OF 'ashlarlaw3.PolyOf'. -/
def polyOfUptoCard : Claim7 := { stood := { row := polyOfUptoRow, standIns := [], harness := (true, "f2fb1b395ad9dc487fd1f0030813d74200d5e4b9f0f2eba71f898273ee820a70"), looks := false }, kinds := [], alts := [], laidByText := true, laidKinds := [.data], laidTests := true, laidLooks := .later }
def PolyOfUptoCardSaid : Prop := Claim7.holds Tryz.pinned (.plain (OpenSpec.upto polyOfSpec)) polyOfUptoCard
end Rows
end Go.Proofs.YtebdbfbicbndlaaGreatDoor
