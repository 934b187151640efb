/-
  DERIVED. GIVEN WITH THE SEED: THE CARDS: each row of YtgmdechhghbmpaaDoorRows.lean that lists a variable, with what it lists TIED to the program's text (the seventh form; the later family's looks); each row that meets fmt, with fmt's text TOLD by the authors' own Lean function (tested against real Go, not proved from fmt's source: count such statements apart). THE CARD IS WHAT COUNTS. Prove the row's statement (the work); the ties are given (YtgmdechhghbmpaaDoorTie.lean); close each card by the builder's one call (the guide's Derived/Test/ToyasCard.lean, 'card_holds'). Laid BY PROGRAM, IN A SANDBOX (cutbox-door.mjs). By AI agents, Wed Nov 11 2026. No macro, syntax, notation, axiom, sorry.
-/
import Derived.Test.YtgmdechhghbmpaaDoorRows
import GoSem.ClaimSeven
namespace Go.Proofs.YtgmdechhghbmpaaDoor
namespace Rows

/-- THE TIED CARD OF 'stickfullaw04.ClassOf'. -/
def classOfCard : Claim7 := { stood := { row := classOfRow, standIns := [], harness := (true, "8b38a33e022608d686ff4fcee681046165f7c04a188659c90a595e0b951fec83"), looks := false }, kinds := [], alts := [], laidByText := true, laidKinds := [.data], laidTests := true, laidLooks := .later }
def ClassOfCardSaid : Prop := Claim7.holds Tryd.pinned (.plain (OpenSpec.ofChange classOfSpec)) classOfCard

/-- THE TIED CARD OF 'stickfullaw04.ClassNear'. -/
def classNearCard : Claim7 := { stood := { row := classNearRow, standIns := [], harness := (true, "8b38a33e022608d686ff4fcee681046165f7c04a188659c90a595e0b951fec83"), looks := false }, kinds := [], alts := [], laidByText := true, laidKinds := [.data], laidTests := true, laidLooks := .later }
def ClassNearCardSaid : Prop := Claim7.holds Tryd.pinned (.plain (OpenSpec.ofChange classNearSpec)) classNearCard

/-- THE TIED CARD OF 'stickfullaw04.ClassLists'. -/
def classListsCard : Claim7 := { stood := { row := classListsRow, standIns := [], harness := (true, "8b38a33e022608d686ff4fcee681046165f7c04a188659c90a595e0b951fec83"), looks := false }, kinds := [], alts := [], laidByText := true, laidKinds := [.data], laidTests := true, laidLooks := .later }
def ClassListsCardSaid : Prop := Claim7.holds Tryd.pinned (.plain (OpenSpec.ofChange classListsSpec)) classListsCard

/-- THE TIED CARD OF 'stickfullaw04.ClassOnce'. -/
def classOnceCard : Claim7 := { stood := { row := classOnceRow, standIns := [], harness := (true, "8b38a33e022608d686ff4fcee681046165f7c04a188659c90a595e0b951fec83"), looks := false }, kinds := [], alts := [], laidByText := true, laidKinds := [.data], laidTests := true, laidLooks := .later }
def ClassOnceCardSaid : Prop := Claim7.holds Tryd.pinned (.plain (OpenSpec.ofChange classOnceSpec)) classOnceCard

/-- THE SECOND FORM's CARD OF 'stickfullaw04.ClassOf'. -/
def classOfUptoCard : Claim7 := { stood := { row := classOfUptoRow, standIns := [], harness := (true, "8b38a33e022608d686ff4fcee681046165f7c04a188659c90a595e0b951fec83"), looks := false }, kinds := [], alts := [], laidByText := true, laidKinds := [.data], laidTests := true, laidLooks := .later }
def ClassOfUptoCardSaid : Prop := Claim7.holds Tryd.pinned (.plain (OpenSpec.upto classOfSpec)) classOfUptoCard

/-- THE SECOND FORM's CARD OF 'stickfullaw04.ClassNear'. -/
def classNearUptoCard : Claim7 := { stood := { row := classNearUptoRow, standIns := [], harness := (true, "8b38a33e022608d686ff4fcee681046165f7c04a188659c90a595e0b951fec83"), looks := false }, kinds := [], alts := [], laidByText := true, laidKinds := [.data], laidTests := true, laidLooks := .later }
def ClassNearUptoCardSaid : Prop := Claim7.holds Tryd.pinned (.plain (OpenSpec.upto classNearSpec)) classNearUptoCard

/-- THE SECOND FORM's CARD OF 'stickfullaw04.ClassLists'. -/
def classListsUptoCard : Claim7 := { stood := { row := classListsUptoRow, standIns := [], harness := (true, "8b38a33e022608d686ff4fcee681046165f7c04a188659c90a595e0b951fec83"), looks := false }, kinds := [], alts := [], laidByText := true, laidKinds := [.data], laidTests := true, laidLooks := .later }
def ClassListsUptoCardSaid : Prop := Claim7.holds Tryd.pinned (.plain (OpenSpec.upto classListsSpec)) classListsUptoCard

/-- THE SECOND FORM's CARD OF 'stickfullaw04.ClassOnce'. -/
def classOnceUptoCard : Claim7 := { stood := { row := classOnceUptoRow, standIns := [], harness := (true, "8b38a33e022608d686ff4fcee681046165f7c04a188659c90a595e0b951fec83"), looks := false }, kinds := [], alts := [], laidByText := true, laidKinds := [.data], laidTests := true, laidLooks := .later }
def ClassOnceUptoCardSaid : Prop := Claim7.holds Tryd.pinned (.plain (OpenSpec.upto classOnceSpec)) classOnceUptoCard
end Rows
end Go.Proofs.YtgmdechhghbmpaaDoor
