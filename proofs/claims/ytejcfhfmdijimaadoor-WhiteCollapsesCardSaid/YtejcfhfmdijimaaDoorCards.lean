/-
  DERIVED. GIVEN WITH THE SEED: THE CARDS: each row of YtejcfhfmdijimaaDoorRows.lean that lists a variable, with what it lists TIED to the program's text (the seventh form; the later family's looks); each row that meets fmt, with fmt's text TOLD by the authors' own Lean function (tested against real Go, not proved from fmt's source: count such statements apart). THE CARD IS WHAT COUNTS. Prove the row's statement (the work); the ties are given (YtejcfhfmdijimaaDoorTie.lean); close each card by the builder's one call (the guide's Derived/Test/ToyasCard.lean, 'card_holds'). Laid BY PROGRAM, IN A SANDBOX (cutbox-door.mjs). By AI agents, Wed Nov 11 2026. No macro, syntax, notation, axiom, sorry.
-/
import Derived.Test.YtejcfhfmdijimaaDoorRows
import GoSem.ClaimSeven
namespace Go.Proofs.YtejcfhfmdijimaaDoor
namespace Rows

/-- THE TIED CARD OF 'stickfullaw08.WhiteCollapses'. -/
def whiteCollapsesCard : Claim7 := { stood := { row := whiteCollapsesRow, standIns := [], harness := (true, "1cf2fafd493515f2be3a07e8f7645a595975b122149b439ad6e83523d8243939"), looks := false }, kinds := [], alts := [], laidByText := true, laidKinds := [.data], laidTests := true, laidLooks := .later }
def WhiteCollapsesCardSaid : Prop := Claim7.holds Tryd.pinned (.plain (OpenSpec.ofChange whiteCollapsesSpec)) whiteCollapsesCard

/-- THE TIED CARD OF 'stickfullaw08.WhiteOrder'. -/
def whiteOrderCard : Claim7 := { stood := { row := whiteOrderRow, standIns := [], harness := (true, "1cf2fafd493515f2be3a07e8f7645a595975b122149b439ad6e83523d8243939"), looks := false }, kinds := [], alts := [], laidByText := true, laidKinds := [.data], laidTests := true, laidLooks := .later }
def WhiteOrderCardSaid : Prop := Claim7.holds Tryd.pinned (.plain (OpenSpec.ofChange whiteOrderSpec)) whiteOrderCard

/-- THE TIED CARD OF 'stickfullaw08.WhiteAlone'. -/
def whiteAloneCard : Claim7 := { stood := { row := whiteAloneRow, standIns := [], harness := (true, "1cf2fafd493515f2be3a07e8f7645a595975b122149b439ad6e83523d8243939"), looks := false }, kinds := [], alts := [], laidByText := true, laidKinds := [.data], laidTests := true, laidLooks := .later }
def WhiteAloneCardSaid : Prop := Claim7.holds Tryd.pinned (.plain (OpenSpec.ofChange whiteAloneSpec)) whiteAloneCard

/-- THE TIED CARD OF 'stickfullaw08.WhiteAgain'. -/
def whiteAgainCard : Claim7 := { stood := { row := whiteAgainRow, standIns := [], harness := (true, "1cf2fafd493515f2be3a07e8f7645a595975b122149b439ad6e83523d8243939"), looks := false }, kinds := [], alts := [], laidByText := true, laidKinds := [.data], laidTests := true, laidLooks := .later }
def WhiteAgainCardSaid : Prop := Claim7.holds Tryd.pinned (.plain (OpenSpec.ofChange whiteAgainSpec)) whiteAgainCard

/-- THE TIED CARD OF 'stickfullaw08.WhiteParts'. -/
def whitePartsCard : Claim7 := { stood := { row := whitePartsRow, standIns := [], harness := (true, "1cf2fafd493515f2be3a07e8f7645a595975b122149b439ad6e83523d8243939"), looks := false }, kinds := [], alts := [], laidByText := true, laidKinds := [.data], laidTests := true, laidLooks := .later }
def WhitePartsCardSaid : Prop := Claim7.holds Tryd.pinned (.plain (OpenSpec.ofChange whitePartsSpec)) whitePartsCard

/-- THE SECOND FORM's CARD OF 'stickfullaw08.WhiteCollapses'. -/
def whiteCollapsesUptoCard : Claim7 := { stood := { row := whiteCollapsesUptoRow, standIns := [], harness := (true, "1cf2fafd493515f2be3a07e8f7645a595975b122149b439ad6e83523d8243939"), looks := false }, kinds := [], alts := [], laidByText := true, laidKinds := [.data], laidTests := true, laidLooks := .later }
def WhiteCollapsesUptoCardSaid : Prop := Claim7.holds Tryd.pinned (.plain (OpenSpec.upto whiteCollapsesSpec)) whiteCollapsesUptoCard

/-- THE SECOND FORM's CARD OF 'stickfullaw08.WhiteOrder'. -/
def whiteOrderUptoCard : Claim7 := { stood := { row := whiteOrderUptoRow, standIns := [], harness := (true, "1cf2fafd493515f2be3a07e8f7645a595975b122149b439ad6e83523d8243939"), looks := false }, kinds := [], alts := [], laidByText := true, laidKinds := [.data], laidTests := true, laidLooks := .later }
def WhiteOrderUptoCardSaid : Prop := Claim7.holds Tryd.pinned (.plain (OpenSpec.upto whiteOrderSpec)) whiteOrderUptoCard

/-- THE SECOND FORM's CARD OF 'stickfullaw08.WhiteAlone'. -/
def whiteAloneUptoCard : Claim7 := { stood := { row := whiteAloneUptoRow, standIns := [], harness := (true, "1cf2fafd493515f2be3a07e8f7645a595975b122149b439ad6e83523d8243939"), looks := false }, kinds := [], alts := [], laidByText := true, laidKinds := [.data], laidTests := true, laidLooks := .later }
def WhiteAloneUptoCardSaid : Prop := Claim7.holds Tryd.pinned (.plain (OpenSpec.upto whiteAloneSpec)) whiteAloneUptoCard

/-- THE SECOND FORM's CARD OF 'stickfullaw08.WhiteAgain'. -/
def whiteAgainUptoCard : Claim7 := { stood := { row := whiteAgainUptoRow, standIns := [], harness := (true, "1cf2fafd493515f2be3a07e8f7645a595975b122149b439ad6e83523d8243939"), looks := false }, kinds := [], alts := [], laidByText := true, laidKinds := [.data], laidTests := true, laidLooks := .later }
def WhiteAgainUptoCardSaid : Prop := Claim7.holds Tryd.pinned (.plain (OpenSpec.upto whiteAgainSpec)) whiteAgainUptoCard

/-- THE SECOND FORM's CARD OF 'stickfullaw08.WhiteParts'. -/
def whitePartsUptoCard : Claim7 := { stood := { row := whitePartsUptoRow, standIns := [], harness := (true, "1cf2fafd493515f2be3a07e8f7645a595975b122149b439ad6e83523d8243939"), looks := false }, kinds := [], alts := [], laidByText := true, laidKinds := [.data], laidTests := true, laidLooks := .later }
def WhitePartsUptoCardSaid : Prop := Claim7.holds Tryd.pinned (.plain (OpenSpec.upto whitePartsSpec)) whitePartsUptoCard
end Rows
end Go.Proofs.YtejcfhfmdijimaaDoor
