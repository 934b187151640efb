/-
  DERIVED. GIVEN WITH THE SEED: THE PROGRAM's TIES (one call each: nine closed facts by the kernel) AND EACH ROW's TIE, after the 31st guide's Derived/Test/Toyas{Tie, Card}.lean. No idea stands in it: it is a product of the set-up. Laid BY PROGRAM, IN A SANDBOX (cutbox-door.mjs). By AI agents, Wed Nov 11 2026. No macro, syntax, notation, axiom, sorry.
-/
import Derived.Test.YtgpobhnonjdamaaDoorRows
import Derived.LaidByTextLater
import Derived.SevenTiedAt
import Derived.LaidSub
import Derived.LaidOnce
namespace Go.Proofs.YtgpobhnonjdamaaDoor
open Go
set_option maxRecDepth 100000
theorem seatTie1 : Tryd.prog.laidByTextLater [("stickful/arena.hasKids", Rows.laid_stickful_arena_hasKids), ("stickful/arena.hasLines", Rows.laid_stickful_arena_hasLines), ("stickful/arena.hasText", Rows.laid_stickful_arena_hasText), ("stickful/arena.hasEdges", Rows.laid_stickful_arena_hasEdges), ("stickful/arena.hasSize", Rows.laid_stickful_arena_hasSize), ("stickful/arena.hasValign", Rows.laid_stickful_arena_hasValign), ("stickful/arena.isOfRuby", Rows.laid_stickful_arena_isOfRuby)] [.data, .data, .data, .data, .data, .data, .data] true :=
  Program.laidByTextLater_by_one 44 8 10 (by kernel_rfl) (by kernel_rfl) (by kernel_rfl) (by kernel_rfl) (by kernel_rfl) (by kernel_rfl) (fun _ _ => by kernel_rfl)
theorem noOwnUnsafe : Tryd.pinned.checked.prog.headLifts.contains "ownunsafe" = false := by kernel_rfl
theorem tie : Tryd.prog.laidByTextLater [("stickful/arena.hasKids", Rows.laid_stickful_arena_hasKids), ("stickful/arena.hasLines", Rows.laid_stickful_arena_hasLines), ("stickful/arena.hasText", Rows.laid_stickful_arena_hasText), ("stickful/arena.hasEdges", Rows.laid_stickful_arena_hasEdges), ("stickful/arena.hasSize", Rows.laid_stickful_arena_hasSize), ("stickful/arena.hasValign", Rows.laid_stickful_arena_hasValign), ("stickful/arena.isOfRuby", Rows.laid_stickful_arena_isOfRuby)] [.data, .data, .data, .data, .data, .data, .data] true :=
  Program.laidByTextLater.sub seatTie1 ["stickful/arena.hasKids", "stickful/arena.hasLines", "stickful/arena.hasText", "stickful/arena.hasEdges", "stickful/arena.hasSize", "stickful/arena.hasValign", "stickful/arena.isOfRuby"] (by kernel_rfl) (by kernel_rfl)
theorem arenaTells_row_tie : Rows.arenaTellsRow.laidByTextAt .later Tryd.pinned [.data, .data, .data, .data, .data, .data, .data] true :=
  OpenClaim.laidByTextAt_later rfl rfl tie noOwnUnsafe
theorem arenaWalks_row_tie : Rows.arenaWalksRow.laidByTextAt .later Tryd.pinned [.data, .data, .data, .data, .data, .data, .data] true :=
  OpenClaim.laidByTextAt_later rfl rfl tie noOwnUnsafe
theorem arenaOrder_row_tie : Rows.arenaOrderRow.laidByTextAt .later Tryd.pinned [.data, .data, .data, .data, .data, .data, .data] true :=
  OpenClaim.laidByTextAt_later rfl rfl tie noOwnUnsafe
theorem arenaDeep_row_tie : Rows.arenaDeepRow.laidByTextAt .later Tryd.pinned [.data, .data, .data, .data, .data, .data, .data] true :=
  OpenClaim.laidByTextAt_later rfl rfl tie noOwnUnsafe
theorem arenaAdds_row_tie : Rows.arenaAddsRow.laidByTextAt .later Tryd.pinned [.data, .data, .data, .data, .data, .data, .data] true :=
  OpenClaim.laidByTextAt_later rfl rfl tie noOwnUnsafe
theorem arenaTellsUpto_row_tie : Rows.arenaTellsUptoRow.laidByTextAt .later Tryd.pinned [.data, .data, .data, .data, .data, .data, .data] true :=
  OpenClaim.laidByTextAt_later rfl rfl tie noOwnUnsafe
theorem arenaWalksUpto_row_tie : Rows.arenaWalksUptoRow.laidByTextAt .later Tryd.pinned [.data, .data, .data, .data, .data, .data, .data] true :=
  OpenClaim.laidByTextAt_later rfl rfl tie noOwnUnsafe
theorem arenaOrderUpto_row_tie : Rows.arenaOrderUptoRow.laidByTextAt .later Tryd.pinned [.data, .data, .data, .data, .data, .data, .data] true :=
  OpenClaim.laidByTextAt_later rfl rfl tie noOwnUnsafe
theorem arenaDeepUpto_row_tie : Rows.arenaDeepUptoRow.laidByTextAt .later Tryd.pinned [.data, .data, .data, .data, .data, .data, .data] true :=
  OpenClaim.laidByTextAt_later rfl rfl tie noOwnUnsafe
theorem arenaAddsUpto_row_tie : Rows.arenaAddsUptoRow.laidByTextAt .later Tryd.pinned [.data, .data, .data, .data, .data, .data, .data] true :=
  OpenClaim.laidByTextAt_later rfl rfl tie noOwnUnsafe
end Go.Proofs.YtgpobhnonjdamaaDoor
