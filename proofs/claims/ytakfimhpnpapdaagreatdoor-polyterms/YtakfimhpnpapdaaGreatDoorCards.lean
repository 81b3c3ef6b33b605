/-
  DERIVED. GIVEN WITH THE SEED: THE CARDS: each row of YtakfimhpnpapdaaGreatDoorRows.lean that lists a variable, with what it lists TIED to the program's text (the seventh form; the later family's looks); each row that meets fmt, with fmt's text TOLD by the authors' own Lean function (tested against real Go, not proved from fmt's source: count such statements apart). THE CARD IS WHAT COUNTS. Prove the row's statement (the work); the ties are given (YtakfimhpnpapdaaGreatDoorTie.lean); close each card by the builder's one call (the guide's Derived/Test/ToyasCard.lean, 'card_holds'). Laid BY PROGRAM, IN A SANDBOX (cutbox-door.mjs). By AI agents, Wed Nov 11 2026. No macro, syntax, notation, axiom, sorry.
-/
import Derived.Test.YtakfimhpnpapdaaGreatDoorRows
import GoSem.ClaimSeven
namespace Go.Proofs.YtakfimhpnpapdaaGreatDoor
namespace Rows

/-- THE TIED CARD OF 'ashlarlaw3.PolyForms'. -/
def polyFormsCard : Claim7 := { stood := { row := polyFormsRow, standIns := [], harness := (true, "108ac9cb40fd3c0f49710e64e4bc25d82f2dea02c7edfa24cdffd9f7e71756d2"), looks := false }, kinds := [], alts := [], laidByText := true, laidKinds := [.data], laidTests := true, laidLooks := .later }
def PolyFormsCardSaid : Prop := Claim7.holds Tryz.pinned (.plain (OpenSpec.ofChange polyFormsSpec)) polyFormsCard

/-- THE TIED CARD OF 'ashlarlaw3.PolyPseudo'. -/
def polyPseudoCard : Claim7 := { stood := { row := polyPseudoRow, standIns := [], harness := (true, "108ac9cb40fd3c0f49710e64e4bc25d82f2dea02c7edfa24cdffd9f7e71756d2"), looks := false }, kinds := [], alts := [], laidByText := true, laidKinds := [.data], laidTests := true, laidLooks := .later }
def PolyPseudoCardSaid : Prop := Claim7.holds Tryz.pinned (.plain (OpenSpec.ofChange polyPseudoSpec)) polyPseudoCard

/-- THE TIED CARD OF 'ashlarlaw3.PolyTerms'. -/
def polyTermsCard : Claim7 := { stood := { row := polyTermsRow, standIns := [], harness := (true, "108ac9cb40fd3c0f49710e64e4bc25d82f2dea02c7edfa24cdffd9f7e71756d2"), looks := false }, kinds := [], alts := [], laidByText := true, laidKinds := [.data], laidTests := true, laidLooks := .later }
def PolyTermsCardSaid : Prop := Claim7.holds Tryz.pinned (.plain (OpenSpec.ofChange polyTermsSpec)) polyTermsCard

/-- THE SECOND FORM's CARD OF 'ashlarlaw3.PolyForms'. -/
def polyFormsUptoCard : Claim7 := { stood := { row := polyFormsUptoRow, standIns := [], harness := (true, "108ac9cb40fd3c0f49710e64e4bc25d82f2dea02c7edfa24cdffd9f7e71756d2"), looks := false }, kinds := [], alts := [], laidByText := true, laidKinds := [.data], laidTests := true, laidLooks := .later }
def PolyFormsUptoCardSaid : Prop := Claim7.holds Tryz.pinned (.plain (OpenSpec.upto polyFormsSpec)) polyFormsUptoCard

/-- THE SECOND FORM's CARD OF 'ashlarlaw3.PolyPseudo'. -/
def polyPseudoUptoCard : Claim7 := { stood := { row := polyPseudoUptoRow, standIns := [], harness := (true, "108ac9cb40fd3c0f49710e64e4bc25d82f2dea02c7edfa24cdffd9f7e71756d2"), looks := false }, kinds := [], alts := [], laidByText := true, laidKinds := [.data], laidTests := true, laidLooks := .later }
def PolyPseudoUptoCardSaid : Prop := Claim7.holds Tryz.pinned (.plain (OpenSpec.upto polyPseudoSpec)) polyPseudoUptoCard

/-- THE SECOND FORM's CARD OF 'ashlarlaw3.PolyTerms'. -/
def polyTermsUptoCard : Claim7 := { stood := { row := polyTermsUptoRow, standIns := [], harness := (true, "108ac9cb40fd3c0f49710e64e4bc25d82f2dea02c7edfa24cdffd9f7e71756d2"), looks := false }, kinds := [], alts := [], laidByText := true, laidKinds := [.data], laidTests := true, laidLooks := .later }
def PolyTermsUptoCardSaid : Prop := Claim7.holds Tryz.pinned (.plain (OpenSpec.upto polyTermsSpec)) polyTermsUptoCard
end Rows
end Go.Proofs.YtakfimhpnpapdaaGreatDoor
