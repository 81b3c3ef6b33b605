/-
  DERIVED. GIVEN WITH THE SEED: THE CARDS: each row of YtongkalfdgleaaaGreatDoorRows.lean that lists a variable, with what it lists TIED to the program's text (the seventh form; the later family's looks); each row that meets fmt, with fmt's text TOLD by the authors' own Lean function (tested against real Go, not proved from fmt's source: count such statements apart). THE CARD IS WHAT COUNTS. Prove the row's statement (the work); the ties are given (YtongkalfdgleaaaGreatDoorTie.lean); close each card by the builder's one call (the guide's Derived/Test/ToyasCard.lean, 'card_holds'). Laid BY PROGRAM, IN A SANDBOX (cutbox-door.mjs). By AI agents, Wed Nov 11 2026. No macro, syntax, notation, axiom, sorry.
-/
import Derived.Test.YtongkalfdgleaaaGreatDoorRows
import GoSem.ClaimSeven
namespace Go.Proofs.YtongkalfdgleaaaGreatDoor
namespace Rows

/-- THE TIED CARD OF 'ashlarlaw2.RatSums'. -/
def ratSumsCard : Claim7 := { stood := { row := ratSumsRow, standIns := [], harness := (true, "81f8a99ca8a18370c0d374a04c7f93ee7e24c8a31e7a31941bfc27bd6f4cace9"), looks := false }, kinds := [], alts := [], laidByText := true, laidKinds := [.data, .pinned], laidTests := true, laidLooks := .later }
def RatSumsCardSaid : Prop := Claim7.holds Tryz.pinned (.plain (OpenSpec.ofChange ratSumsSpec)) ratSumsCard

/-- THE TIED CARD OF 'ashlarlaw2.RatQuo'. -/
def ratQuoCard : Claim7 := { stood := { row := ratQuoRow, standIns := [], harness := (true, "81f8a99ca8a18370c0d374a04c7f93ee7e24c8a31e7a31941bfc27bd6f4cace9"), looks := false }, kinds := [], alts := [], laidByText := true, laidKinds := [.data, .pinned], laidTests := true, laidLooks := .later }
def RatQuoCardSaid : Prop := Claim7.holds Tryz.pinned (.plain (OpenSpec.ofChange ratQuoSpec)) ratQuoCard

/-- THE TIED CARD OF 'ashlarlaw2.RatText'. -/
def ratTextCard : Claim7 := { stood := { row := ratTextRow, standIns := [], harness := (true, "81f8a99ca8a18370c0d374a04c7f93ee7e24c8a31e7a31941bfc27bd6f4cace9"), looks := false }, kinds := [], alts := [], laidByText := true, laidKinds := [.data, .pinned], laidTests := true, laidLooks := .later }
def RatTextCardSaid : Prop := Claim7.holds Tryz.pinned (.plain (OpenSpec.ofChange ratTextSpec)) ratTextCard

/-- THE SECOND FORM's CARD OF 'ashlarlaw2.RatSums'. -/
def ratSumsUptoCard : Claim7 := { stood := { row := ratSumsUptoRow, standIns := [], harness := (true, "81f8a99ca8a18370c0d374a04c7f93ee7e24c8a31e7a31941bfc27bd6f4cace9"), looks := false }, kinds := [], alts := [], laidByText := true, laidKinds := [.data, .pinned], laidTests := true, laidLooks := .later }
def RatSumsUptoCardSaid : Prop := Claim7.holds Tryz.pinned (.plain (OpenSpec.upto ratSumsSpec)) ratSumsUptoCard

/-- THE SECOND FORM's CARD OF 'ashlarlaw2.RatQuo'. -/
def ratQuoUptoCard : Claim7 := { stood := { row := ratQuoUptoRow, standIns := [], harness := (true, "81f8a99ca8a18370c0d374a04c7f93ee7e24c8a31e7a31941bfc27bd6f4cace9"), looks := false }, kinds := [], alts := [], laidByText := true, laidKinds := [.data, .pinned], laidTests := true, laidLooks := .later }
def RatQuoUptoCardSaid : Prop := Claim7.holds Tryz.pinned (.plain (OpenSpec.upto ratQuoSpec)) ratQuoUptoCard

/-- THE SECOND FORM's CARD OF 'ashlarlaw2.RatText'. -/
def ratTextUptoCard : Claim7 := { stood := { row := ratTextUptoRow, standIns := [], harness := (true, "81f8a99ca8a18370c0d374a04c7f93ee7e24c8a31e7a31941bfc27bd6f4cace9"), looks := false }, kinds := [], alts := [], laidByText := true, laidKinds := [.data, .pinned], laidTests := true, laidLooks := .later }
def RatTextUptoCardSaid : Prop := Claim7.holds Tryz.pinned (.plain (OpenSpec.upto ratTextSpec)) ratTextUptoCard
end Rows
end Go.Proofs.YtongkalfdgleaaaGreatDoor
