/-
  DERIVED. GIVEN WITH THE SEED: THE CARDS: each row of YtmjokfcojilidaaGreatDoorRows.lean that lists a variable, with what it lists TIED to the program's text (the seventh form; the later family's looks); each row that meets fmt, with fmt's text TOLD by the authors' own Lean function (tested against real Go, not proved from fmt's source: count such statements apart). THE CARD IS WHAT COUNTS. Prove the row's statement (the work); the ties are given (YtmjokfcojilidaaGreatDoorTie.lean); close each card by the builder's one call (the guide's Derived/Test/ToyasCard.lean, 'card_holds'). Laid BY PROGRAM, IN A SANDBOX (cutbox-door.mjs). By AI agents, Wed Nov 11 2026. No macro, syntax, notation, axiom, sorry.
-/
import Derived.Test.YtmjokfcojilidaaGreatDoorRows
import GoSem.ClaimSeven
namespace Go.Proofs.YtmjokfcojilidaaGreatDoor
namespace Rows

/-- THE TIED CARD OF 'ashlarlaw8.OreNew'. -/
def oreNewCard : Claim7 := { stood := { row := oreNewRow, standIns := [], harness := (true, "13f10edf9b114c4852c57cef56045fce3b62e14e76b7bf000069b9def0d57c10"), looks := false }, kinds := [], alts := [], laidByText := true, laidKinds := [.data], laidTests := true, laidLooks := .later }
def OreNewCardSaid : Prop := Claim7.holds Tryz.pinned (.plain (OpenSpec.ofChange oreNewSpec)) oreNewCard

/-- THE TIED CARD OF 'ashlarlaw8.OreSums'. -/
def oreSumsCard : Claim7 := { stood := { row := oreSumsRow, standIns := [], harness := (true, "13f10edf9b114c4852c57cef56045fce3b62e14e76b7bf000069b9def0d57c10"), looks := false }, kinds := [], alts := [], laidByText := true, laidKinds := [.data], laidTests := true, laidLooks := .later }
def OreSumsCardSaid : Prop := Claim7.holds Tryz.pinned (.plain (OpenSpec.ofChange oreSumsSpec)) oreSumsCard

/-- THE TIED CARD OF 'ashlarlaw8.OreEach'. -/
def oreEachCard : Claim7 := { stood := { row := oreEachRow, standIns := [], harness := (true, "13f10edf9b114c4852c57cef56045fce3b62e14e76b7bf000069b9def0d57c10"), looks := false }, kinds := [], alts := [], laidByText := true, laidKinds := [.data], laidTests := true, laidLooks := .later }
def OreEachCardSaid : Prop := Claim7.holds Tryz.pinned (.plain (OpenSpec.ofChange oreEachSpec)) oreEachCard

/-- THE SECOND FORM's CARD OF 'ashlarlaw8.OreNew'. -/
def oreNewUptoCard : Claim7 := { stood := { row := oreNewUptoRow, standIns := [], harness := (true, "13f10edf9b114c4852c57cef56045fce3b62e14e76b7bf000069b9def0d57c10"), looks := false }, kinds := [], alts := [], laidByText := true, laidKinds := [.data], laidTests := true, laidLooks := .later }
def OreNewUptoCardSaid : Prop := Claim7.holds Tryz.pinned (.plain (OpenSpec.upto oreNewSpec)) oreNewUptoCard

/-- THE SECOND FORM's CARD OF 'ashlarlaw8.OreSums'. -/
def oreSumsUptoCard : Claim7 := { stood := { row := oreSumsUptoRow, standIns := [], harness := (true, "13f10edf9b114c4852c57cef56045fce3b62e14e76b7bf000069b9def0d57c10"), looks := false }, kinds := [], alts := [], laidByText := true, laidKinds := [.data], laidTests := true, laidLooks := .later }
def OreSumsUptoCardSaid : Prop := Claim7.holds Tryz.pinned (.plain (OpenSpec.upto oreSumsSpec)) oreSumsUptoCard

/-- THE SECOND FORM's CARD OF 'ashlarlaw8.OreEach'. -/
def oreEachUptoCard : Claim7 := { stood := { row := oreEachUptoRow, standIns := [], harness := (true, "13f10edf9b114c4852c57cef56045fce3b62e14e76b7bf000069b9def0d57c10"), looks := false }, kinds := [], alts := [], laidByText := true, laidKinds := [.data], laidTests := true, laidLooks := .later }
def OreEachUptoCardSaid : Prop := Claim7.holds Tryz.pinned (.plain (OpenSpec.upto oreEachSpec)) oreEachUptoCard
end Rows
end Go.Proofs.YtmjokfcojilidaaGreatDoor
