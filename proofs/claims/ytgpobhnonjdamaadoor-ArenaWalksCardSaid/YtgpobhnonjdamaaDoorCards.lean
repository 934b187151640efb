/-
  DERIVED. GIVEN WITH THE SEED: THE CARDS: each row of YtgpobhnonjdamaaDoorRows.lean that lists a variable, with what it lists TIED to the program's text (the seventh form; the later family's looks); each row that meets fmt, with fmt's text TOLD by the authors' own Lean function (tested against real Go, not proved from fmt's source: count such statements apart). THE CARD IS WHAT COUNTS. Prove the row's statement (the work); the ties are given (YtgpobhnonjdamaaDoorTie.lean); close each card by the builder's one call (the guide's Derived/Test/ToyasCard.lean, 'card_holds'). Laid BY PROGRAM, IN A SANDBOX (cutbox-door.mjs). By AI agents, Wed Nov 11 2026. No macro, syntax, notation, axiom, sorry.
-/
import Derived.Test.YtgpobhnonjdamaaDoorRows
import GoSem.ClaimSeven
namespace Go.Proofs.YtgpobhnonjdamaaDoor
namespace Rows

/-- THE TIED CARD OF 'stickfullaw07.ArenaTells'. -/
def arenaTellsCard : Claim7 := { stood := { row := arenaTellsRow, standIns := [], harness := (true, "348c125cdc67ae21397dedcd9fef1bce3ecbc62cab82020870009fb72457331c"), looks := false }, kinds := [], alts := [], laidByText := true, laidKinds := [.data, .data, .data, .data, .data, .data, .data], laidTests := true, laidLooks := .later }
def ArenaTellsCardSaid : Prop := Claim7.holds Tryd.pinned (.plain (OpenSpec.ofChange arenaTellsSpec)) arenaTellsCard

/-- THE TIED CARD OF 'stickfullaw07.ArenaWalks'. -/
def arenaWalksCard : Claim7 := { stood := { row := arenaWalksRow, standIns := [], harness := (true, "348c125cdc67ae21397dedcd9fef1bce3ecbc62cab82020870009fb72457331c"), looks := false }, kinds := [], alts := [], laidByText := true, laidKinds := [.data, .data, .data, .data, .data, .data, .data], laidTests := true, laidLooks := .later }
def ArenaWalksCardSaid : Prop := Claim7.holds Tryd.pinned (.plain (OpenSpec.ofChange arenaWalksSpec)) arenaWalksCard

/-- THE TIED CARD OF 'stickfullaw07.ArenaOrder'. -/
def arenaOrderCard : Claim7 := { stood := { row := arenaOrderRow, standIns := [], harness := (true, "348c125cdc67ae21397dedcd9fef1bce3ecbc62cab82020870009fb72457331c"), looks := false }, kinds := [], alts := [], laidByText := true, laidKinds := [.data, .data, .data, .data, .data, .data, .data], laidTests := true, laidLooks := .later }
def ArenaOrderCardSaid : Prop := Claim7.holds Tryd.pinned (.plain (OpenSpec.ofChange arenaOrderSpec)) arenaOrderCard

/-- THE TIED CARD OF 'stickfullaw07.ArenaDeep'. -/
def arenaDeepCard : Claim7 := { stood := { row := arenaDeepRow, standIns := [], harness := (true, "348c125cdc67ae21397dedcd9fef1bce3ecbc62cab82020870009fb72457331c"), looks := false }, kinds := [], alts := [], laidByText := true, laidKinds := [.data, .data, .data, .data, .data, .data, .data], laidTests := true, laidLooks := .later }
def ArenaDeepCardSaid : Prop := Claim7.holds Tryd.pinned (.plain (OpenSpec.ofChange arenaDeepSpec)) arenaDeepCard

/-- THE TIED CARD OF 'stickfullaw07.ArenaAdds'. -/
def arenaAddsCard : Claim7 := { stood := { row := arenaAddsRow, standIns := [], harness := (true, "348c125cdc67ae21397dedcd9fef1bce3ecbc62cab82020870009fb72457331c"), looks := false }, kinds := [], alts := [], laidByText := true, laidKinds := [.data, .data, .data, .data, .data, .data, .data], laidTests := true, laidLooks := .later }
def ArenaAddsCardSaid : Prop := Claim7.holds Tryd.pinned (.plain (OpenSpec.ofChange arenaAddsSpec)) arenaAddsCard

/-- THE SECOND FORM's CARD OF 'stickfullaw07.ArenaTells'. -/
def arenaTellsUptoCard : Claim7 := { stood := { row := arenaTellsUptoRow, standIns := [], harness := (true, "348c125cdc67ae21397dedcd9fef1bce3ecbc62cab82020870009fb72457331c"), looks := false }, kinds := [], alts := [], laidByText := true, laidKinds := [.data, .data, .data, .data, .data, .data, .data], laidTests := true, laidLooks := .later }
def ArenaTellsUptoCardSaid : Prop := Claim7.holds Tryd.pinned (.plain (OpenSpec.upto arenaTellsSpec)) arenaTellsUptoCard

/-- THE SECOND FORM's CARD OF 'stickfullaw07.ArenaWalks'. -/
def arenaWalksUptoCard : Claim7 := { stood := { row := arenaWalksUptoRow, standIns := [], harness := (true, "348c125cdc67ae21397dedcd9fef1bce3ecbc62cab82020870009fb72457331c"), looks := false }, kinds := [], alts := [], laidByText := true, laidKinds := [.data, .data, .data, .data, .data, .data, .data], laidTests := true, laidLooks := .later }
def ArenaWalksUptoCardSaid : Prop := Claim7.holds Tryd.pinned (.plain (OpenSpec.upto arenaWalksSpec)) arenaWalksUptoCard

/-- THE SECOND FORM's CARD OF 'stickfullaw07.ArenaOrder'. -/
def arenaOrderUptoCard : Claim7 := { stood := { row := arenaOrderUptoRow, standIns := [], harness := (true, "348c125cdc67ae21397dedcd9fef1bce3ecbc62cab82020870009fb72457331c"), looks := false }, kinds := [], alts := [], laidByText := true, laidKinds := [.data, .data, .data, .data, .data, .data, .data], laidTests := true, laidLooks := .later }
def ArenaOrderUptoCardSaid : Prop := Claim7.holds Tryd.pinned (.plain (OpenSpec.upto arenaOrderSpec)) arenaOrderUptoCard

/-- THE SECOND FORM's CARD OF 'stickfullaw07.ArenaDeep'. -/
def arenaDeepUptoCard : Claim7 := { stood := { row := arenaDeepUptoRow, standIns := [], harness := (true, "348c125cdc67ae21397dedcd9fef1bce3ecbc62cab82020870009fb72457331c"), looks := false }, kinds := [], alts := [], laidByText := true, laidKinds := [.data, .data, .data, .data, .data, .data, .data], laidTests := true, laidLooks := .later }
def ArenaDeepUptoCardSaid : Prop := Claim7.holds Tryd.pinned (.plain (OpenSpec.upto arenaDeepSpec)) arenaDeepUptoCard

/-- THE SECOND FORM's CARD OF 'stickfullaw07.ArenaAdds'. -/
def arenaAddsUptoCard : Claim7 := { stood := { row := arenaAddsUptoRow, standIns := [], harness := (true, "348c125cdc67ae21397dedcd9fef1bce3ecbc62cab82020870009fb72457331c"), looks := false }, kinds := [], alts := [], laidByText := true, laidKinds := [.data, .data, .data, .data, .data, .data, .data], laidTests := true, laidLooks := .later }
def ArenaAddsUptoCardSaid : Prop := Claim7.holds Tryd.pinned (.plain (OpenSpec.upto arenaAddsSpec)) arenaAddsUptoCard
end Rows
end Go.Proofs.YtgpobhnonjdamaaDoor
