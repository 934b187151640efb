/-
  DERIVED. GIVEN WITH THE SEED: THE CARDS: each row of YtmceblkjbpbcoaaGreatDoorRows.lean that lists a variable, with what it lists TIED to the program's text (the seventh form; the later family's looks); each row that meets fmt, with fmt's text TOLD by the authors' own Lean function (tested against real Go, not proved from fmt's source: count such statements apart). THE CARD IS WHAT COUNTS. Prove the row's statement (the work); the ties are given (YtmceblkjbpbcoaaGreatDoorTie.lean); close each card by the builder's one call (the guide's Derived/Test/ToyasCard.lean, 'card_holds'). Laid BY PROGRAM, IN A SANDBOX (cutbox-door.mjs). By AI agents, Wed Nov 11 2026. No macro, syntax, notation, axiom, sorry.
-/
import Derived.Test.YtmceblkjbpbcoaaGreatDoorRows
import GoSem.ClaimSeven
namespace Go.Proofs.YtmceblkjbpbcoaaGreatDoor
namespace Rows

/-- THE TIED CARD OF 'stickfullaw11.CellsNest'. -/
def cellsNestCard : Claim7 := { stood := { row := cellsNestRow, standIns := [], harness := (true, "72e3182cb07e7107e83372c755006cdae7eee8229f083da77a55e238f2cf098f"), looks := false }, kinds := [], alts := [], laidByText := true, laidKinds := [.data, .data, .data, .data, .data, .data, .data, .data], laidTests := true, laidLooks := .later }
def CellsNestCardSaid : Prop := Claim7.holds Tryz.pinned (.plain (OpenSpec.ofChange cellsNestSpec)) cellsNestCard

/-- THE TIED CARD OF 'stickfullaw11.CellsEnds'. -/
def cellsEndsCard : Claim7 := { stood := { row := cellsEndsRow, standIns := [], harness := (true, "72e3182cb07e7107e83372c755006cdae7eee8229f083da77a55e238f2cf098f"), looks := false }, kinds := [], alts := [], laidByText := true, laidKinds := [.data, .data, .data, .data, .data, .data, .data, .data], laidTests := true, laidLooks := .later }
def CellsEndsCardSaid : Prop := Claim7.holds Tryz.pinned (.plain (OpenSpec.ofChange cellsEndsSpec)) cellsEndsCard

/-- THE TIED CARD OF 'stickfullaw11.CellsApart'. -/
def cellsApartCard : Claim7 := { stood := { row := cellsApartRow, standIns := [], harness := (true, "72e3182cb07e7107e83372c755006cdae7eee8229f083da77a55e238f2cf098f"), looks := false }, kinds := [], alts := [], laidByText := true, laidKinds := [.data, .data, .data, .data, .data, .data, .data, .data], laidTests := true, laidLooks := .later }
def CellsApartCardSaid : Prop := Claim7.holds Tryz.pinned (.plain (OpenSpec.ofChange cellsApartSpec)) cellsApartCard

/-- THE TIED CARD OF 'stickfullaw11.CellsGo'. -/
def cellsGoCard : Claim7 := { stood := { row := cellsGoRow, standIns := [], harness := (true, "72e3182cb07e7107e83372c755006cdae7eee8229f083da77a55e238f2cf098f"), looks := false }, kinds := [], alts := [], laidByText := true, laidKinds := [.data, .data, .data, .data, .data, .data, .data, .data], laidTests := true, laidLooks := .later }
def CellsGoCardSaid : Prop := Claim7.holds Tryz.pinned (.plain (OpenSpec.ofChange cellsGoSpec)) cellsGoCard

/-- THE SECOND FORM's CARD OF 'stickfullaw11.CellsNest'. -/
def cellsNestUptoCard : Claim7 := { stood := { row := cellsNestUptoRow, standIns := [], harness := (true, "72e3182cb07e7107e83372c755006cdae7eee8229f083da77a55e238f2cf098f"), looks := false }, kinds := [], alts := [], laidByText := true, laidKinds := [.data, .data, .data, .data, .data, .data, .data, .data], laidTests := true, laidLooks := .later }
def CellsNestUptoCardSaid : Prop := Claim7.holds Tryz.pinned (.plain (OpenSpec.upto cellsNestSpec)) cellsNestUptoCard

/-- THE SECOND FORM's CARD OF 'stickfullaw11.CellsEnds'. -/
def cellsEndsUptoCard : Claim7 := { stood := { row := cellsEndsUptoRow, standIns := [], harness := (true, "72e3182cb07e7107e83372c755006cdae7eee8229f083da77a55e238f2cf098f"), looks := false }, kinds := [], alts := [], laidByText := true, laidKinds := [.data, .data, .data, .data, .data, .data, .data, .data], laidTests := true, laidLooks := .later }
def CellsEndsUptoCardSaid : Prop := Claim7.holds Tryz.pinned (.plain (OpenSpec.upto cellsEndsSpec)) cellsEndsUptoCard

/-- THE SECOND FORM's CARD OF 'stickfullaw11.CellsApart'. -/
def cellsApartUptoCard : Claim7 := { stood := { row := cellsApartUptoRow, standIns := [], harness := (true, "72e3182cb07e7107e83372c755006cdae7eee8229f083da77a55e238f2cf098f"), looks := false }, kinds := [], alts := [], laidByText := true, laidKinds := [.data, .data, .data, .data, .data, .data, .data, .data], laidTests := true, laidLooks := .later }
def CellsApartUptoCardSaid : Prop := Claim7.holds Tryz.pinned (.plain (OpenSpec.upto cellsApartSpec)) cellsApartUptoCard

/-- THE SECOND FORM's CARD OF 'stickfullaw11.CellsGo'. -/
def cellsGoUptoCard : Claim7 := { stood := { row := cellsGoUptoRow, standIns := [], harness := (true, "72e3182cb07e7107e83372c755006cdae7eee8229f083da77a55e238f2cf098f"), looks := false }, kinds := [], alts := [], laidByText := true, laidKinds := [.data, .data, .data, .data, .data, .data, .data, .data], laidTests := true, laidLooks := .later }
def CellsGoUptoCardSaid : Prop := Claim7.holds Tryz.pinned (.plain (OpenSpec.upto cellsGoSpec)) cellsGoUptoCard
end Rows
end Go.Proofs.YtmceblkjbpbcoaaGreatDoor
