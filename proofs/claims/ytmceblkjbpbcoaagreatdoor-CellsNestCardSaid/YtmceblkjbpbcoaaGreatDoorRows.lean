/-
  NARROWER THAN 'FOR EVERY INPUT', by the rows' own cells (each row's printed sentence says how): CellsNest: laid · CellsEnds: laid · CellsApart: laid · CellsGo: laid.
  DERIVED. THE GIVEN ROWS OF THIS SEAT. 4 by the template 'for every input the law returns true; each argument reads behind the call as it read before'; 0 by the template 'total and deterministic' (their statements: YtmceblkjbpbcoaaGreatDoorTotals.lean).
  GIVEN WITH THE SEED: the statements are not yours to turn. If you find one false, say at which input.
  Laid BY PROGRAM, IN A SANDBOX (cutbox-rows.mjs): the forced cells as the released guide's own fill.sh prints them over the translation 30c90339af95b775… (all of the seat's roots in one cut). By AI agents, Wed Nov 11 2026. No macro, syntax, notation, axiom, sorry.
-/
import Derived.Test.YtmceblkjbpbcoaaGreatDoorChecked
import GoSem.Claim
import GoSem.ClaimJoined
import GoSem.ClaimMapViews
import Derived.JoinedTies
import Derived.KernelRfl
namespace Go.Proofs.YtmceblkjbpbcoaaGreatDoor
/- THE CELL 'sum', in the pinned program and in every row, IS THE sha256 OF THE DUMP (.gsa) THAT YtmceblkjbpbcoaaGreatDoorProg.lean LOADS. Nothing in Lean hashes anything: it is a label: what it is worth is what the hold of that sum in a sandbox is worth. -/
noncomputable def Tryz.pinned : Pinned := { name := "ytmceblkjbpbcoaagreatdoor", sum := "30c90339af95b775c177293eef02a359dbd8ac151bb9014dc568cbf0fbc204b8", checked := Tryz.checked }
namespace Rows
def none {H : Type} : Left H := { results := [], args := [] }

/- WHAT THE LISTED PACKAGE-LEVEL VARIABLES READ AS WHEN THE CALL BEGINS. Each datum BY PROGRAM (the guide's laid-datum.mjs) off the statement by which the dump's own 'gosem.cut.vars' lays the variable. In a bare row this is a premise. The card (YtmceblkjbpbcoaaGreatDoorCards.lean) ties it to the program's text. -/
def laid_stickful_class_wides {H : Type} : DataW H := .agg [.agg [.lit (.int .i32 4352), .lit (.int .i32 4447)], .agg [.lit (.int .i32 11904), .lit (.int .i32 12350)], .agg [.lit (.int .i32 12353), .lit (.int .i32 42191)], .agg [.lit (.int .i32 44032), .lit (.int .i32 55203)], .agg [.lit (.int .i32 63744), .lit (.int .i32 64255)], .agg [.lit (.int .i32 65072), .lit (.int .i32 65103)], .agg [.lit (.int .i32 65281), .lit (.int .i32 65376)], .agg [.lit (.int .i32 65504), .lit (.int .i32 65510)], .agg [.lit (.int .i32 127744), .lit (.int .i32 128591)], .agg [.lit (.int .i32 129280), .lit (.int .i32 129535)], .agg [.lit (.int .i32 131072), .lit (.int .i32 262141)]]
def laid_stickful_utf_forms {H : Type} : DataW H := .agg [.agg [.lit (.int .u8 0), .lit (.int .u8 127), .lit (.int .u8 0), .lit (.int .u8 0), .lit (.int .u8 0), .lit (.int .i64 1)], .agg [.lit (.int .u8 194), .lit (.int .u8 223), .lit (.int .u8 128), .lit (.int .u8 191), .lit (.int .u8 192), .lit (.int .i64 2)], .agg [.lit (.int .u8 224), .lit (.int .u8 224), .lit (.int .u8 160), .lit (.int .u8 191), .lit (.int .u8 224), .lit (.int .i64 3)], .agg [.lit (.int .u8 225), .lit (.int .u8 236), .lit (.int .u8 128), .lit (.int .u8 191), .lit (.int .u8 224), .lit (.int .i64 3)], .agg [.lit (.int .u8 237), .lit (.int .u8 237), .lit (.int .u8 128), .lit (.int .u8 159), .lit (.int .u8 224), .lit (.int .i64 3)], .agg [.lit (.int .u8 238), .lit (.int .u8 239), .lit (.int .u8 128), .lit (.int .u8 191), .lit (.int .u8 224), .lit (.int .i64 3)], .agg [.lit (.int .u8 240), .lit (.int .u8 240), .lit (.int .u8 144), .lit (.int .u8 191), .lit (.int .u8 240), .lit (.int .i64 4)], .agg [.lit (.int .u8 241), .lit (.int .u8 243), .lit (.int .u8 128), .lit (.int .u8 191), .lit (.int .u8 240), .lit (.int .i64 4)], .agg [.lit (.int .u8 244), .lit (.int .u8 244), .lit (.int .u8 128), .lit (.int .u8 143), .lit (.int .u8 240), .lit (.int .i64 4)]]
def laid_stickful_arena_hasKids {H : Type} : DataW H := .agg [.lit (.bool true), .lit (.bool false), .lit (.bool true), .lit (.bool false), .lit (.bool true), .lit (.bool true), .lit (.bool true), .lit (.bool true), .lit (.bool true)]
def laid_stickful_arena_hasText {H : Type} : DataW H := .agg [.lit (.bool false), .lit (.bool true), .lit (.bool false), .lit (.bool false), .lit (.bool false), .lit (.bool false), .lit (.bool false), .lit (.bool false), .lit (.bool false)]
def laid_stickful_arena_hasEdges {H : Type} : DataW H := .agg [.lit (.bool false), .lit (.bool false), .lit (.bool true), .lit (.bool false), .lit (.bool true), .lit (.bool true), .lit (.bool false), .lit (.bool false), .lit (.bool false)]
def laid_stickful_arena_hasSize {H : Type} : DataW H := .agg [.lit (.bool false), .lit (.bool false), .lit (.bool false), .lit (.bool false), .lit (.bool true), .lit (.bool true), .lit (.bool false), .lit (.bool false), .lit (.bool false)]
def laid_stickful_arena_hasValign {H : Type} : DataW H := .agg [.lit (.bool false), .lit (.bool false), .lit (.bool true), .lit (.bool false), .lit (.bool true), .lit (.bool true), .lit (.bool true), .lit (.bool false), .lit (.bool false)]
def laid_stickful_arena_isOfRuby {H : Type} : DataW H := .agg [.lit (.bool false), .lit (.bool false), .lit (.bool false), .lit (.bool false), .lit (.bool false), .lit (.bool false), .lit (.bool false), .lit (.bool true), .lit (.bool true)]

/-- 'stickfullaw11.CellsNest': WHATEVER THE INPUT: true; the input reads as it did. -/
def cellsNestSpec : ChangeSpec := { name := "cellsNest", fn := fun _ => fun
  | [d1, d2] => { results := [.lit (.bool true)], args := [d1, d2] }
  | _ => none }
def cellsNestRow : OpenClaim := { program := "ytmceblkjbpbcoaagreatdoor", sum := "30c90339af95b775c177293eef02a359dbd8ac151bb9014dc568cbf0fbc204b8", func := "stickful/stickfullaw11.CellsNest", spec := "cellsNest", inPlace := ["math/bits.Add64"], unfollowed := true, recurses := true, named := ["stickful/arena.isOfRuby", "stickful/arena.hasKids", "stickful/arena.hasText", "stickful/arena.hasEdges", "stickful/arena.hasSize", "stickful/arena.hasValign", "stickful/utf.forms", "stickful/class.wides", "math/bits.divideError", "math/bits.overflowError"], apart := false, laid := [("stickful/class.wides", laid_stickful_class_wides), ("stickful/utf.forms", laid_stickful_utf_forms), ("stickful/arena.hasKids", laid_stickful_arena_hasKids), ("stickful/arena.hasText", laid_stickful_arena_hasText), ("stickful/arena.hasEdges", laid_stickful_arena_hasEdges), ("stickful/arena.hasSize", laid_stickful_arena_hasSize), ("stickful/arena.hasValign", laid_stickful_arena_hasValign), ("stickful/arena.isOfRuby", laid_stickful_arena_isOfRuby)] }
def CellsNestSaid : Prop := cellsNestRow.holds Tryz.pinned (OpenSpec.ofChange cellsNestSpec)

/-- ITS FALSE NEIGHBOUR: 'it returns false'. Refute it at one input. -/
def cellsNestWrong : ChangeSpec := { name := "cellsNest", fn := fun _ => fun
  | [d1, d2] => { results := [.lit (.bool false)], args := [d1, d2] }
  | _ => none }
def CellsNestWrongFalsely : Prop := cellsNestRow.holds Tryz.pinned (OpenSpec.ofChange cellsNestWrong)

/-- 'stickfullaw11.CellsEnds': WHATEVER THE INPUT: true; the input reads as it did. -/
def cellsEndsSpec : ChangeSpec := { name := "cellsEnds", fn := fun _ => fun
  | [d1, d2] => { results := [.lit (.bool true)], args := [d1, d2] }
  | _ => none }
def cellsEndsRow : OpenClaim := { program := "ytmceblkjbpbcoaagreatdoor", sum := "30c90339af95b775c177293eef02a359dbd8ac151bb9014dc568cbf0fbc204b8", func := "stickful/stickfullaw11.CellsEnds", spec := "cellsEnds", inPlace := ["math/bits.Add64"], unfollowed := true, recurses := true, named := ["stickful/arena.isOfRuby", "stickful/arena.hasKids", "stickful/arena.hasText", "stickful/arena.hasEdges", "stickful/arena.hasSize", "stickful/arena.hasValign", "stickful/utf.forms", "stickful/class.wides", "math/bits.divideError", "math/bits.overflowError"], apart := false, laid := [("stickful/class.wides", laid_stickful_class_wides), ("stickful/utf.forms", laid_stickful_utf_forms), ("stickful/arena.hasKids", laid_stickful_arena_hasKids), ("stickful/arena.hasText", laid_stickful_arena_hasText), ("stickful/arena.hasEdges", laid_stickful_arena_hasEdges), ("stickful/arena.hasSize", laid_stickful_arena_hasSize), ("stickful/arena.hasValign", laid_stickful_arena_hasValign), ("stickful/arena.isOfRuby", laid_stickful_arena_isOfRuby)] }
def CellsEndsSaid : Prop := cellsEndsRow.holds Tryz.pinned (OpenSpec.ofChange cellsEndsSpec)

/-- ITS FALSE NEIGHBOUR: 'it returns false'. Refute it at one input. -/
def cellsEndsWrong : ChangeSpec := { name := "cellsEnds", fn := fun _ => fun
  | [d1, d2] => { results := [.lit (.bool false)], args := [d1, d2] }
  | _ => none }
def CellsEndsWrongFalsely : Prop := cellsEndsRow.holds Tryz.pinned (OpenSpec.ofChange cellsEndsWrong)

/-- 'stickfullaw11.CellsApart': WHATEVER THE INPUT: true; the input reads as it did. -/
def cellsApartSpec : ChangeSpec := { name := "cellsApart", fn := fun _ => fun
  | [d1, d2, d3] => { results := [.lit (.bool true)], args := [d1, d2, d3] }
  | _ => none }
def cellsApartRow : OpenClaim := { program := "ytmceblkjbpbcoaagreatdoor", sum := "30c90339af95b775c177293eef02a359dbd8ac151bb9014dc568cbf0fbc204b8", func := "stickful/stickfullaw11.CellsApart", spec := "cellsApart", inPlace := ["math/bits.Add64"], unfollowed := true, recurses := true, named := ["stickful/arena.isOfRuby", "stickful/arena.hasKids", "stickful/arena.hasText", "stickful/arena.hasEdges", "stickful/arena.hasSize", "stickful/arena.hasValign", "stickful/utf.forms", "stickful/class.wides", "math/bits.divideError", "math/bits.overflowError"], apart := false, laid := [("stickful/class.wides", laid_stickful_class_wides), ("stickful/utf.forms", laid_stickful_utf_forms), ("stickful/arena.hasKids", laid_stickful_arena_hasKids), ("stickful/arena.hasText", laid_stickful_arena_hasText), ("stickful/arena.hasEdges", laid_stickful_arena_hasEdges), ("stickful/arena.hasSize", laid_stickful_arena_hasSize), ("stickful/arena.hasValign", laid_stickful_arena_hasValign), ("stickful/arena.isOfRuby", laid_stickful_arena_isOfRuby)] }
def CellsApartSaid : Prop := cellsApartRow.holds Tryz.pinned (OpenSpec.ofChange cellsApartSpec)

/-- ITS FALSE NEIGHBOUR: 'it returns false'. Refute it at one input. -/
def cellsApartWrong : ChangeSpec := { name := "cellsApart", fn := fun _ => fun
  | [d1, d2, d3] => { results := [.lit (.bool false)], args := [d1, d2, d3] }
  | _ => none }
def CellsApartWrongFalsely : Prop := cellsApartRow.holds Tryz.pinned (OpenSpec.ofChange cellsApartWrong)

/-- 'stickfullaw11.CellsGo': WHATEVER THE INPUT: true; the input reads as it did. -/
def cellsGoSpec : ChangeSpec := { name := "cellsGo", fn := fun _ => fun
  | [d1, d2] => { results := [.lit (.bool true)], args := [d1, d2] }
  | _ => none }
def cellsGoRow : OpenClaim := { program := "ytmceblkjbpbcoaagreatdoor", sum := "30c90339af95b775c177293eef02a359dbd8ac151bb9014dc568cbf0fbc204b8", func := "stickful/stickfullaw11.CellsGo", spec := "cellsGo", inPlace := ["math/bits.Add64"], unfollowed := true, recurses := true, named := ["stickful/arena.isOfRuby", "stickful/arena.hasKids", "stickful/arena.hasText", "stickful/arena.hasEdges", "stickful/arena.hasSize", "stickful/arena.hasValign", "stickful/utf.forms", "stickful/class.wides", "math/bits.divideError", "math/bits.overflowError"], apart := false, laid := [("stickful/class.wides", laid_stickful_class_wides), ("stickful/utf.forms", laid_stickful_utf_forms), ("stickful/arena.hasKids", laid_stickful_arena_hasKids), ("stickful/arena.hasText", laid_stickful_arena_hasText), ("stickful/arena.hasEdges", laid_stickful_arena_hasEdges), ("stickful/arena.hasSize", laid_stickful_arena_hasSize), ("stickful/arena.hasValign", laid_stickful_arena_hasValign), ("stickful/arena.isOfRuby", laid_stickful_arena_isOfRuby)] }
def CellsGoSaid : Prop := cellsGoRow.holds Tryz.pinned (OpenSpec.ofChange cellsGoSpec)

/-- ITS FALSE NEIGHBOUR: 'it returns false'. Refute it at one input. -/
def cellsGoWrong : ChangeSpec := { name := "cellsGo", fn := fun _ => fun
  | [d1, d2] => { results := [.lit (.bool false)], args := [d1, d2] }
  | _ => none }
def CellsGoWrongFalsely : Prop := cellsGoRow.holds Tryz.pinned (OpenSpec.ofChange cellsGoWrong)

/- THE SECOND FORM. 'bulk': how many values and letters a reading holds, each counted each time it is reached (what is shared counts as often as it is met; a slice's spare places count too). A statement '..UptoSaid' is the law's where the arguments, and the package variables that the reading takes, are together of bulk at most 1048576: NARROWER than '..Said'. Prove '..Said' where nothing that the law and all that it calls make is longer than what came in: it says more and counts as full. Else prove '..UptoSaid'. A law counts once. -/
mutual
def uptoBulk {H : Type} : DataW H → Nat
  | .lit (.string bytes) => bytes.length + 1
  | .lit _ => 1
  | .nil => 1
  | .ptr d => uptoBulk d + 1
  | .slice elems spare => uptoBulkAll elems + uptoBulkAll spare + 1
  | .agg parts => uptoBulkAll parts + 1
  | .iface _ d => uptoBulk d + 1
  | .map entries => uptoBulkEntries entries + 1
  | .held _ => 1
def uptoBulkAll {H : Type} : List (DataW H) → Nat
  | [] => 0
  | d :: r => uptoBulk d + uptoBulkAll r
def uptoBulkEntries {H : Type} : List (Lit × DataW H) → Nat
  | [] => 0
  | x :: r => uptoBulkEntry x + uptoBulkEntries r
def uptoBulkEntry {H : Type} : Lit × DataW H → Nat
  | (.string bytes, d) => bytes.length + uptoBulk d + 1
  | (_, d) => uptoBulk d + 1
 end
def uptoSmall : (H : Type) → List (DataW H) → Bool := fun _ ds => decide (uptoBulkAll ds ≤ 1048576)
def OpenSpec.upto (s : _root_.Go.ChangeSpec) : _root_.Go.OpenSpec := { _root_.Go.OpenSpec.ofChange s with cond := some uptoSmall }

/-- 'stickfullaw11.CellsNest', WHERE WHAT IT READS IS OF BULK AT MOST 1048576: true; the input reads as it did. -/
def cellsNestUptoRow : OpenClaim := { program := "ytmceblkjbpbcoaagreatdoor", sum := "30c90339af95b775c177293eef02a359dbd8ac151bb9014dc568cbf0fbc204b8", func := "stickful/stickfullaw11.CellsNest", spec := "cellsNest", inPlace := ["math/bits.Add64"], unfollowed := true, recurses := true, named := ["stickful/arena.isOfRuby", "stickful/arena.hasKids", "stickful/arena.hasText", "stickful/arena.hasEdges", "stickful/arena.hasSize", "stickful/arena.hasValign", "stickful/utf.forms", "stickful/class.wides", "math/bits.divideError", "math/bits.overflowError"], apart := false, laid := [("stickful/class.wides", laid_stickful_class_wides), ("stickful/utf.forms", laid_stickful_utf_forms), ("stickful/arena.hasKids", laid_stickful_arena_hasKids), ("stickful/arena.hasText", laid_stickful_arena_hasText), ("stickful/arena.hasEdges", laid_stickful_arena_hasEdges), ("stickful/arena.hasSize", laid_stickful_arena_hasSize), ("stickful/arena.hasValign", laid_stickful_arena_hasValign), ("stickful/arena.isOfRuby", laid_stickful_arena_isOfRuby)], narrowed := true }
def CellsNestUptoSaid : Prop := cellsNestUptoRow.holds Tryz.pinned (OpenSpec.upto cellsNestSpec)

/-- 'stickfullaw11.CellsEnds', WHERE WHAT IT READS IS OF BULK AT MOST 1048576: true; the input reads as it did. -/
def cellsEndsUptoRow : OpenClaim := { program := "ytmceblkjbpbcoaagreatdoor", sum := "30c90339af95b775c177293eef02a359dbd8ac151bb9014dc568cbf0fbc204b8", func := "stickful/stickfullaw11.CellsEnds", spec := "cellsEnds", inPlace := ["math/bits.Add64"], unfollowed := true, recurses := true, named := ["stickful/arena.isOfRuby", "stickful/arena.hasKids", "stickful/arena.hasText", "stickful/arena.hasEdges", "stickful/arena.hasSize", "stickful/arena.hasValign", "stickful/utf.forms", "stickful/class.wides", "math/bits.divideError", "math/bits.overflowError"], apart := false, laid := [("stickful/class.wides", laid_stickful_class_wides), ("stickful/utf.forms", laid_stickful_utf_forms), ("stickful/arena.hasKids", laid_stickful_arena_hasKids), ("stickful/arena.hasText", laid_stickful_arena_hasText), ("stickful/arena.hasEdges", laid_stickful_arena_hasEdges), ("stickful/arena.hasSize", laid_stickful_arena_hasSize), ("stickful/arena.hasValign", laid_stickful_arena_hasValign), ("stickful/arena.isOfRuby", laid_stickful_arena_isOfRuby)], narrowed := true }
def CellsEndsUptoSaid : Prop := cellsEndsUptoRow.holds Tryz.pinned (OpenSpec.upto cellsEndsSpec)

/-- 'stickfullaw11.CellsApart', WHERE WHAT IT READS IS OF BULK AT MOST 1048576: true; the input reads as it did. -/
def cellsApartUptoRow : OpenClaim := { program := "ytmceblkjbpbcoaagreatdoor", sum := "30c90339af95b775c177293eef02a359dbd8ac151bb9014dc568cbf0fbc204b8", func := "stickful/stickfullaw11.CellsApart", spec := "cellsApart", inPlace := ["math/bits.Add64"], unfollowed := true, recurses := true, named := ["stickful/arena.isOfRuby", "stickful/arena.hasKids", "stickful/arena.hasText", "stickful/arena.hasEdges", "stickful/arena.hasSize", "stickful/arena.hasValign", "stickful/utf.forms", "stickful/class.wides", "math/bits.divideError", "math/bits.overflowError"], apart := false, laid := [("stickful/class.wides", laid_stickful_class_wides), ("stickful/utf.forms", laid_stickful_utf_forms), ("stickful/arena.hasKids", laid_stickful_arena_hasKids), ("stickful/arena.hasText", laid_stickful_arena_hasText), ("stickful/arena.hasEdges", laid_stickful_arena_hasEdges), ("stickful/arena.hasSize", laid_stickful_arena_hasSize), ("stickful/arena.hasValign", laid_stickful_arena_hasValign), ("stickful/arena.isOfRuby", laid_stickful_arena_isOfRuby)], narrowed := true }
def CellsApartUptoSaid : Prop := cellsApartUptoRow.holds Tryz.pinned (OpenSpec.upto cellsApartSpec)

/-- 'stickfullaw11.CellsGo', WHERE WHAT IT READS IS OF BULK AT MOST 1048576: true; the input reads as it did. -/
def cellsGoUptoRow : OpenClaim := { program := "ytmceblkjbpbcoaagreatdoor", sum := "30c90339af95b775c177293eef02a359dbd8ac151bb9014dc568cbf0fbc204b8", func := "stickful/stickfullaw11.CellsGo", spec := "cellsGo", inPlace := ["math/bits.Add64"], unfollowed := true, recurses := true, named := ["stickful/arena.isOfRuby", "stickful/arena.hasKids", "stickful/arena.hasText", "stickful/arena.hasEdges", "stickful/arena.hasSize", "stickful/arena.hasValign", "stickful/utf.forms", "stickful/class.wides", "math/bits.divideError", "math/bits.overflowError"], apart := false, laid := [("stickful/class.wides", laid_stickful_class_wides), ("stickful/utf.forms", laid_stickful_utf_forms), ("stickful/arena.hasKids", laid_stickful_arena_hasKids), ("stickful/arena.hasText", laid_stickful_arena_hasText), ("stickful/arena.hasEdges", laid_stickful_arena_hasEdges), ("stickful/arena.hasSize", laid_stickful_arena_hasSize), ("stickful/arena.hasValign", laid_stickful_arena_hasValign), ("stickful/arena.isOfRuby", laid_stickful_arena_isOfRuby)], narrowed := true }
def CellsGoUptoSaid : Prop := cellsGoUptoRow.holds Tryz.pinned (OpenSpec.upto cellsGoSpec)

end Rows
end Go.Proofs.YtmceblkjbpbcoaaGreatDoor
