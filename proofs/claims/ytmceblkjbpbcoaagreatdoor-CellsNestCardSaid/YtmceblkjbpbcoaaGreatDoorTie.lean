/-
  DERIVED. GIVEN WITH THE SEED: THE PROGRAM's TIES (one call each: nine closed facts by the kernel) AND EACH ROW's TIE, after the 31st guide's Derived/Test/Toyas{Tie, Card}.lean. No idea stands in it: it is a product of the set-up. Laid BY PROGRAM, IN A SANDBOX (cutbox-door.mjs). By AI agents, Wed Nov 11 2026. No macro, syntax, notation, axiom, sorry.
-/
import Derived.Test.YtmceblkjbpbcoaaGreatDoorRows
import Derived.LaidByTextLater
import Derived.SevenTiedAt
import Derived.LaidSub
import Derived.LaidOnce
namespace Go.Proofs.YtmceblkjbpbcoaaGreatDoor
open Go
set_option maxRecDepth 100000
theorem seatTie1 : Tryz.prog.laidByTextLater [("stickful/class.wides", Rows.laid_stickful_class_wides), ("stickful/utf.forms", Rows.laid_stickful_utf_forms), ("stickful/arena.hasKids", Rows.laid_stickful_arena_hasKids), ("stickful/arena.hasText", Rows.laid_stickful_arena_hasText), ("stickful/arena.hasEdges", Rows.laid_stickful_arena_hasEdges), ("stickful/arena.hasSize", Rows.laid_stickful_arena_hasSize), ("stickful/arena.hasValign", Rows.laid_stickful_arena_hasValign), ("stickful/arena.isOfRuby", Rows.laid_stickful_arena_isOfRuby)] [.data, .data, .data, .data, .data, .data, .data, .data] true :=
  Program.laidByTextLater_by_one 69 8 55 (by kernel_rfl) (by kernel_rfl) (by kernel_rfl) (by kernel_rfl) (by kernel_rfl) (by kernel_rfl) (fun _ _ => by kernel_rfl)
theorem noOwnUnsafe : Tryz.pinned.checked.prog.headLifts.contains "ownunsafe" = false := by kernel_rfl
theorem tie : Tryz.prog.laidByTextLater [("stickful/class.wides", Rows.laid_stickful_class_wides), ("stickful/utf.forms", Rows.laid_stickful_utf_forms), ("stickful/arena.hasKids", Rows.laid_stickful_arena_hasKids), ("stickful/arena.hasText", Rows.laid_stickful_arena_hasText), ("stickful/arena.hasEdges", Rows.laid_stickful_arena_hasEdges), ("stickful/arena.hasSize", Rows.laid_stickful_arena_hasSize), ("stickful/arena.hasValign", Rows.laid_stickful_arena_hasValign), ("stickful/arena.isOfRuby", Rows.laid_stickful_arena_isOfRuby)] [.data, .data, .data, .data, .data, .data, .data, .data] true :=
  Program.laidByTextLater.sub seatTie1 ["stickful/class.wides", "stickful/utf.forms", "stickful/arena.hasKids", "stickful/arena.hasText", "stickful/arena.hasEdges", "stickful/arena.hasSize", "stickful/arena.hasValign", "stickful/arena.isOfRuby"] (by kernel_rfl) (by kernel_rfl)
theorem cellsNest_row_tie : Rows.cellsNestRow.laidByTextAt .later Tryz.pinned [.data, .data, .data, .data, .data, .data, .data, .data] true :=
  OpenClaim.laidByTextAt_later rfl rfl tie noOwnUnsafe
theorem cellsEnds_row_tie : Rows.cellsEndsRow.laidByTextAt .later Tryz.pinned [.data, .data, .data, .data, .data, .data, .data, .data] true :=
  OpenClaim.laidByTextAt_later rfl rfl tie noOwnUnsafe
theorem cellsApart_row_tie : Rows.cellsApartRow.laidByTextAt .later Tryz.pinned [.data, .data, .data, .data, .data, .data, .data, .data] true :=
  OpenClaim.laidByTextAt_later rfl rfl tie noOwnUnsafe
theorem cellsGo_row_tie : Rows.cellsGoRow.laidByTextAt .later Tryz.pinned [.data, .data, .data, .data, .data, .data, .data, .data] true :=
  OpenClaim.laidByTextAt_later rfl rfl tie noOwnUnsafe
theorem cellsNestUpto_row_tie : Rows.cellsNestUptoRow.laidByTextAt .later Tryz.pinned [.data, .data, .data, .data, .data, .data, .data, .data] true :=
  OpenClaim.laidByTextAt_later rfl rfl tie noOwnUnsafe
theorem cellsEndsUpto_row_tie : Rows.cellsEndsUptoRow.laidByTextAt .later Tryz.pinned [.data, .data, .data, .data, .data, .data, .data, .data] true :=
  OpenClaim.laidByTextAt_later rfl rfl tie noOwnUnsafe
theorem cellsApartUpto_row_tie : Rows.cellsApartUptoRow.laidByTextAt .later Tryz.pinned [.data, .data, .data, .data, .data, .data, .data, .data] true :=
  OpenClaim.laidByTextAt_later rfl rfl tie noOwnUnsafe
theorem cellsGoUpto_row_tie : Rows.cellsGoUptoRow.laidByTextAt .later Tryz.pinned [.data, .data, .data, .data, .data, .data, .data, .data] true :=
  OpenClaim.laidByTextAt_later rfl rfl tie noOwnUnsafe
end Go.Proofs.YtmceblkjbpbcoaaGreatDoor
