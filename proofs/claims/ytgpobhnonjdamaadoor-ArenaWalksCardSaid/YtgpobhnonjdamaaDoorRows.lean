/-
  NARROWER THAN 'FOR EVERY INPUT', by the rows' own cells (each row's printed sentence says how): ArenaTells: laid · ArenaWalks: laid · ArenaOrder: laid · ArenaDeep: laid · ArenaAdds: laid.
  DERIVED. THE GIVEN ROWS OF THIS SEAT. 5 by the template 'for every input the law returns true; each argument reads behind the call as it read before'; 0 by the template 'total and deterministic' (their statements: YtgpobhnonjdamaaDoorTotals.lean).
  GIVEN WITH THE SEED: the statements are not yours to turn. If you find one false, say at which input.
  Laid BY PROGRAM, IN A SANDBOX (cutbox-rows.mjs): the forced cells as the released guide's own fill.sh prints them over the translation 8f0c99971add9603… (all of the seat's roots in one cut). By AI agents, Wed Nov 11 2026. No macro, syntax, notation, axiom, sorry.
-/
import Derived.Test.YtgpobhnonjdamaaDoorChecked
import GoSem.Claim
import GoSem.ClaimJoined
import GoSem.ClaimMapViews
import Derived.JoinedTies
import Derived.KernelRfl
namespace Go.Proofs.YtgpobhnonjdamaaDoor
/- THE CELL 'sum', in the pinned program and in every row, IS THE sha256 OF THE DUMP (.gsa) THAT YtgpobhnonjdamaaDoorProg.lean LOADS. Nothing in Lean hashes anything: it is a label: what it is worth is what the hold of that sum in a sandbox is worth. -/
noncomputable def Tryd.pinned : Pinned := { name := "ytgpobhnonjdamaadoor", sum := "8f0c99971add9603ad61d62fa5e8e543205260739bcac1fb3844a2a4234d0d15", checked := Tryd.checked }
namespace Rows
def none {H : Type} : Left H := { results := [], args := [] }

/- WHAT THE LISTED PACKAGE-LEVEL VARIABLES READ AS WHEN THE CALL BEGINS. Each datum BY PROGRAM (the guide's laid-datum.mjs) off the statement by which the dump's own 'gosem.cut.vars' lays the variable. In a bare row this is a premise. The card (YtgpobhnonjdamaaDoorCards.lean) ties it to the program's text. -/
def laid_stickful_arena_hasKids {H : Type} : DataW H := .agg [.lit (.bool true), .lit (.bool false), .lit (.bool true), .lit (.bool false), .lit (.bool true), .lit (.bool true), .lit (.bool true), .lit (.bool true), .lit (.bool true)]
def laid_stickful_arena_hasLines {H : Type} : DataW H := .agg [.lit (.bool true), .lit (.bool false), .lit (.bool false), .lit (.bool false), .lit (.bool true), .lit (.bool true), .lit (.bool true), .lit (.bool true), .lit (.bool true)]
def laid_stickful_arena_hasText {H : Type} : DataW H := .agg [.lit (.bool false), .lit (.bool true), .lit (.bool false), .lit (.bool false), .lit (.bool false), .lit (.bool false), .lit (.bool false), .lit (.bool false), .lit (.bool false)]
def laid_stickful_arena_hasEdges {H : Type} : DataW H := .agg [.lit (.bool false), .lit (.bool false), .lit (.bool true), .lit (.bool false), .lit (.bool true), .lit (.bool true), .lit (.bool false), .lit (.bool false), .lit (.bool false)]
def laid_stickful_arena_hasSize {H : Type} : DataW H := .agg [.lit (.bool false), .lit (.bool false), .lit (.bool false), .lit (.bool false), .lit (.bool true), .lit (.bool true), .lit (.bool false), .lit (.bool false), .lit (.bool false)]
def laid_stickful_arena_hasValign {H : Type} : DataW H := .agg [.lit (.bool false), .lit (.bool false), .lit (.bool true), .lit (.bool false), .lit (.bool true), .lit (.bool true), .lit (.bool true), .lit (.bool false), .lit (.bool false)]
def laid_stickful_arena_isOfRuby {H : Type} : DataW H := .agg [.lit (.bool false), .lit (.bool false), .lit (.bool false), .lit (.bool false), .lit (.bool false), .lit (.bool false), .lit (.bool false), .lit (.bool true), .lit (.bool true)]

/-- 'stickfullaw07.ArenaTells': WHATEVER THE INPUT: true; the input reads as it did. -/
def arenaTellsSpec : ChangeSpec := { name := "arenaTells", fn := fun _ => fun
  | [d1, d2, d3] => { results := [.lit (.bool true)], args := [d1, d2, d3] }
  | _ => none }
def arenaTellsRow : OpenClaim := { program := "ytgpobhnonjdamaadoor", sum := "8f0c99971add9603ad61d62fa5e8e543205260739bcac1fb3844a2a4234d0d15", func := "stickful/stickfullaw07.ArenaTells", spec := "arenaTells", unfollowed := true, recurses := true, named := ["stickful/arena.isOfRuby", "stickful/arena.hasKids", "stickful/arena.hasText", "stickful/arena.hasEdges", "stickful/arena.hasSize", "stickful/arena.hasValign", "stickful/arena.hasLines"], apart := false, laid := [("stickful/arena.hasKids", laid_stickful_arena_hasKids), ("stickful/arena.hasLines", laid_stickful_arena_hasLines), ("stickful/arena.hasText", laid_stickful_arena_hasText), ("stickful/arena.hasEdges", laid_stickful_arena_hasEdges), ("stickful/arena.hasSize", laid_stickful_arena_hasSize), ("stickful/arena.hasValign", laid_stickful_arena_hasValign), ("stickful/arena.isOfRuby", laid_stickful_arena_isOfRuby)] }
def ArenaTellsSaid : Prop := arenaTellsRow.holds Tryd.pinned (OpenSpec.ofChange arenaTellsSpec)

/-- ITS FALSE NEIGHBOUR: 'it returns false'. Refute it at one input. -/
def arenaTellsWrong : ChangeSpec := { name := "arenaTells", fn := fun _ => fun
  | [d1, d2, d3] => { results := [.lit (.bool false)], args := [d1, d2, d3] }
  | _ => none }
def ArenaTellsWrongFalsely : Prop := arenaTellsRow.holds Tryd.pinned (OpenSpec.ofChange arenaTellsWrong)

/-- 'stickfullaw07.ArenaWalks': WHATEVER THE INPUT: true; the input reads as it did. -/
def arenaWalksSpec : ChangeSpec := { name := "arenaWalks", fn := fun _ => fun
  | [d1, d2, d3] => { results := [.lit (.bool true)], args := [d1, d2, d3] }
  | _ => none }
def arenaWalksRow : OpenClaim := { program := "ytgpobhnonjdamaadoor", sum := "8f0c99971add9603ad61d62fa5e8e543205260739bcac1fb3844a2a4234d0d15", func := "stickful/stickfullaw07.ArenaWalks", spec := "arenaWalks", unfollowed := true, recurses := true, named := ["stickful/arena.isOfRuby", "stickful/arena.hasKids", "stickful/arena.hasText", "stickful/arena.hasEdges", "stickful/arena.hasSize", "stickful/arena.hasValign", "stickful/arena.hasLines"], apart := false, laid := [("stickful/arena.hasKids", laid_stickful_arena_hasKids), ("stickful/arena.hasLines", laid_stickful_arena_hasLines), ("stickful/arena.hasText", laid_stickful_arena_hasText), ("stickful/arena.hasEdges", laid_stickful_arena_hasEdges), ("stickful/arena.hasSize", laid_stickful_arena_hasSize), ("stickful/arena.hasValign", laid_stickful_arena_hasValign), ("stickful/arena.isOfRuby", laid_stickful_arena_isOfRuby)] }
def ArenaWalksSaid : Prop := arenaWalksRow.holds Tryd.pinned (OpenSpec.ofChange arenaWalksSpec)

/-- ITS FALSE NEIGHBOUR: 'it returns false'. Refute it at one input. -/
def arenaWalksWrong : ChangeSpec := { name := "arenaWalks", fn := fun _ => fun
  | [d1, d2, d3] => { results := [.lit (.bool false)], args := [d1, d2, d3] }
  | _ => none }
def ArenaWalksWrongFalsely : Prop := arenaWalksRow.holds Tryd.pinned (OpenSpec.ofChange arenaWalksWrong)

/-- 'stickfullaw07.ArenaOrder': WHATEVER THE INPUT: true; the input reads as it did. -/
def arenaOrderSpec : ChangeSpec := { name := "arenaOrder", fn := fun _ => fun
  | [d1, d2, d3] => { results := [.lit (.bool true)], args := [d1, d2, d3] }
  | _ => none }
def arenaOrderRow : OpenClaim := { program := "ytgpobhnonjdamaadoor", sum := "8f0c99971add9603ad61d62fa5e8e543205260739bcac1fb3844a2a4234d0d15", func := "stickful/stickfullaw07.ArenaOrder", spec := "arenaOrder", unfollowed := true, recurses := true, named := ["stickful/arena.isOfRuby", "stickful/arena.hasKids", "stickful/arena.hasText", "stickful/arena.hasEdges", "stickful/arena.hasSize", "stickful/arena.hasValign", "stickful/arena.hasLines"], apart := false, laid := [("stickful/arena.hasKids", laid_stickful_arena_hasKids), ("stickful/arena.hasLines", laid_stickful_arena_hasLines), ("stickful/arena.hasText", laid_stickful_arena_hasText), ("stickful/arena.hasEdges", laid_stickful_arena_hasEdges), ("stickful/arena.hasSize", laid_stickful_arena_hasSize), ("stickful/arena.hasValign", laid_stickful_arena_hasValign), ("stickful/arena.isOfRuby", laid_stickful_arena_isOfRuby)] }
def ArenaOrderSaid : Prop := arenaOrderRow.holds Tryd.pinned (OpenSpec.ofChange arenaOrderSpec)

/-- ITS FALSE NEIGHBOUR: 'it returns false'. Refute it at one input. -/
def arenaOrderWrong : ChangeSpec := { name := "arenaOrder", fn := fun _ => fun
  | [d1, d2, d3] => { results := [.lit (.bool false)], args := [d1, d2, d3] }
  | _ => none }
def ArenaOrderWrongFalsely : Prop := arenaOrderRow.holds Tryd.pinned (OpenSpec.ofChange arenaOrderWrong)

/-- 'stickfullaw07.ArenaDeep': WHATEVER THE INPUT: true; the input reads as it did. -/
def arenaDeepSpec : ChangeSpec := { name := "arenaDeep", fn := fun _ => fun
  | [d1, d2] => { results := [.lit (.bool true)], args := [d1, d2] }
  | _ => none }
def arenaDeepRow : OpenClaim := { program := "ytgpobhnonjdamaadoor", sum := "8f0c99971add9603ad61d62fa5e8e543205260739bcac1fb3844a2a4234d0d15", func := "stickful/stickfullaw07.ArenaDeep", spec := "arenaDeep", unfollowed := true, recurses := true, named := ["stickful/arena.isOfRuby", "stickful/arena.hasKids", "stickful/arena.hasText", "stickful/arena.hasEdges", "stickful/arena.hasSize", "stickful/arena.hasValign", "stickful/arena.hasLines"], apart := false, laid := [("stickful/arena.hasKids", laid_stickful_arena_hasKids), ("stickful/arena.hasLines", laid_stickful_arena_hasLines), ("stickful/arena.hasText", laid_stickful_arena_hasText), ("stickful/arena.hasEdges", laid_stickful_arena_hasEdges), ("stickful/arena.hasSize", laid_stickful_arena_hasSize), ("stickful/arena.hasValign", laid_stickful_arena_hasValign), ("stickful/arena.isOfRuby", laid_stickful_arena_isOfRuby)] }
def ArenaDeepSaid : Prop := arenaDeepRow.holds Tryd.pinned (OpenSpec.ofChange arenaDeepSpec)

/-- ITS FALSE NEIGHBOUR: 'it returns false'. Refute it at one input. -/
def arenaDeepWrong : ChangeSpec := { name := "arenaDeep", fn := fun _ => fun
  | [d1, d2] => { results := [.lit (.bool false)], args := [d1, d2] }
  | _ => none }
def ArenaDeepWrongFalsely : Prop := arenaDeepRow.holds Tryd.pinned (OpenSpec.ofChange arenaDeepWrong)

/-- 'stickfullaw07.ArenaAdds': WHATEVER THE INPUT: true; the input reads as it did. -/
def arenaAddsSpec : ChangeSpec := { name := "arenaAdds", fn := fun _ => fun
  | [d1, d2, d3] => { results := [.lit (.bool true)], args := [d1, d2, d3] }
  | _ => none }
def arenaAddsRow : OpenClaim := { program := "ytgpobhnonjdamaadoor", sum := "8f0c99971add9603ad61d62fa5e8e543205260739bcac1fb3844a2a4234d0d15", func := "stickful/stickfullaw07.ArenaAdds", spec := "arenaAdds", unfollowed := true, recurses := true, named := ["stickful/arena.isOfRuby", "stickful/arena.hasKids", "stickful/arena.hasText", "stickful/arena.hasEdges", "stickful/arena.hasSize", "stickful/arena.hasValign", "stickful/arena.hasLines"], apart := false, laid := [("stickful/arena.hasKids", laid_stickful_arena_hasKids), ("stickful/arena.hasLines", laid_stickful_arena_hasLines), ("stickful/arena.hasText", laid_stickful_arena_hasText), ("stickful/arena.hasEdges", laid_stickful_arena_hasEdges), ("stickful/arena.hasSize", laid_stickful_arena_hasSize), ("stickful/arena.hasValign", laid_stickful_arena_hasValign), ("stickful/arena.isOfRuby", laid_stickful_arena_isOfRuby)] }
def ArenaAddsSaid : Prop := arenaAddsRow.holds Tryd.pinned (OpenSpec.ofChange arenaAddsSpec)

/-- ITS FALSE NEIGHBOUR: 'it returns false'. Refute it at one input. -/
def arenaAddsWrong : ChangeSpec := { name := "arenaAdds", fn := fun _ => fun
  | [d1, d2, d3] => { results := [.lit (.bool false)], args := [d1, d2, d3] }
  | _ => none }
def ArenaAddsWrongFalsely : Prop := arenaAddsRow.holds Tryd.pinned (OpenSpec.ofChange arenaAddsWrong)

/- THE SECOND FORM. 'bulk': how many values and letters a reading holds, each counted each time it is reached (what is shared counts as often as it is met; a slice's spare places count too). A statement '..UptoSaid' is the law's where the arguments, and the package variables that the reading takes, are together of bulk at most 1048576: NARROWER than '..Said'. Prove '..Said' where nothing that the law and all that it calls make is longer than what came in: it says more and counts as full. Else prove '..UptoSaid'. A law counts once. -/
mutual
def uptoBulk {H : Type} : DataW H → Nat
  | .lit (.string bytes) => bytes.length + 1
  | .lit _ => 1
  | .nil => 1
  | .ptr d => uptoBulk d + 1
  | .slice elems spare => uptoBulkAll elems + uptoBulkAll spare + 1
  | .agg parts => uptoBulkAll parts + 1
  | .iface _ d => uptoBulk d + 1
  | .map entries => uptoBulkEntries entries + 1
  | .held _ => 1
def uptoBulkAll {H : Type} : List (DataW H) → Nat
  | [] => 0
  | d :: r => uptoBulk d + uptoBulkAll r
def uptoBulkEntries {H : Type} : List (Lit × DataW H) → Nat
  | [] => 0
  | x :: r => uptoBulkEntry x + uptoBulkEntries r
def uptoBulkEntry {H : Type} : Lit × DataW H → Nat
  | (.string bytes, d) => bytes.length + uptoBulk d + 1
  | (_, d) => uptoBulk d + 1
 end
def uptoSmall : (H : Type) → List (DataW H) → Bool := fun _ ds => decide (uptoBulkAll ds ≤ 1048576)
def OpenSpec.upto (s : _root_.Go.ChangeSpec) : _root_.Go.OpenSpec := { _root_.Go.OpenSpec.ofChange s with cond := some uptoSmall }

/-- 'stickfullaw07.ArenaTells', WHERE WHAT IT READS IS OF BULK AT MOST 1048576: true; the input reads as it did. -/
def arenaTellsUptoRow : OpenClaim := { program := "ytgpobhnonjdamaadoor", sum := "8f0c99971add9603ad61d62fa5e8e543205260739bcac1fb3844a2a4234d0d15", func := "stickful/stickfullaw07.ArenaTells", spec := "arenaTells", unfollowed := true, recurses := true, named := ["stickful/arena.isOfRuby", "stickful/arena.hasKids", "stickful/arena.hasText", "stickful/arena.hasEdges", "stickful/arena.hasSize", "stickful/arena.hasValign", "stickful/arena.hasLines"], apart := false, laid := [("stickful/arena.hasKids", laid_stickful_arena_hasKids), ("stickful/arena.hasLines", laid_stickful_arena_hasLines), ("stickful/arena.hasText", laid_stickful_arena_hasText), ("stickful/arena.hasEdges", laid_stickful_arena_hasEdges), ("stickful/arena.hasSize", laid_stickful_arena_hasSize), ("stickful/arena.hasValign", laid_stickful_arena_hasValign), ("stickful/arena.isOfRuby", laid_stickful_arena_isOfRuby)], narrowed := true }
def ArenaTellsUptoSaid : Prop := arenaTellsUptoRow.holds Tryd.pinned (OpenSpec.upto arenaTellsSpec)

/-- 'stickfullaw07.ArenaWalks', WHERE WHAT IT READS IS OF BULK AT MOST 1048576: true; the input reads as it did. -/
def arenaWalksUptoRow : OpenClaim := { program := "ytgpobhnonjdamaadoor", sum := "8f0c99971add9603ad61d62fa5e8e543205260739bcac1fb3844a2a4234d0d15", func := "stickful/stickfullaw07.ArenaWalks", spec := "arenaWalks", unfollowed := true, recurses := true, named := ["stickful/arena.isOfRuby", "stickful/arena.hasKids", "stickful/arena.hasText", "stickful/arena.hasEdges", "stickful/arena.hasSize", "stickful/arena.hasValign", "stickful/arena.hasLines"], apart := false, laid := [("stickful/arena.hasKids", laid_stickful_arena_hasKids), ("stickful/arena.hasLines", laid_stickful_arena_hasLines), ("stickful/arena.hasText", laid_stickful_arena_hasText), ("stickful/arena.hasEdges", laid_stickful_arena_hasEdges), ("stickful/arena.hasSize", laid_stickful_arena_hasSize), ("stickful/arena.hasValign", laid_stickful_arena_hasValign), ("stickful/arena.isOfRuby", laid_stickful_arena_isOfRuby)], narrowed := true }
def ArenaWalksUptoSaid : Prop := arenaWalksUptoRow.holds Tryd.pinned (OpenSpec.upto arenaWalksSpec)

/-- 'stickfullaw07.ArenaOrder', WHERE WHAT IT READS IS OF BULK AT MOST 1048576: true; the input reads as it did. -/
def arenaOrderUptoRow : OpenClaim := { program := "ytgpobhnonjdamaadoor", sum := "8f0c99971add9603ad61d62fa5e8e543205260739bcac1fb3844a2a4234d0d15", func := "stickful/stickfullaw07.ArenaOrder", spec := "arenaOrder", unfollowed := true, recurses := true, named := ["stickful/arena.isOfRuby", "stickful/arena.hasKids", "stickful/arena.hasText", "stickful/arena.hasEdges", "stickful/arena.hasSize", "stickful/arena.hasValign", "stickful/arena.hasLines"], apart := false, laid := [("stickful/arena.hasKids", laid_stickful_arena_hasKids), ("stickful/arena.hasLines", laid_stickful_arena_hasLines), ("stickful/arena.hasText", laid_stickful_arena_hasText), ("stickful/arena.hasEdges", laid_stickful_arena_hasEdges), ("stickful/arena.hasSize", laid_stickful_arena_hasSize), ("stickful/arena.hasValign", laid_stickful_arena_hasValign), ("stickful/arena.isOfRuby", laid_stickful_arena_isOfRuby)], narrowed := true }
def ArenaOrderUptoSaid : Prop := arenaOrderUptoRow.holds Tryd.pinned (OpenSpec.upto arenaOrderSpec)

/-- 'stickfullaw07.ArenaDeep', WHERE WHAT IT READS IS OF BULK AT MOST 1048576: true; the input reads as it did. -/
def arenaDeepUptoRow : OpenClaim := { program := "ytgpobhnonjdamaadoor", sum := "8f0c99971add9603ad61d62fa5e8e543205260739bcac1fb3844a2a4234d0d15", func := "stickful/stickfullaw07.ArenaDeep", spec := "arenaDeep", unfollowed := true, recurses := true, named := ["stickful/arena.isOfRuby", "stickful/arena.hasKids", "stickful/arena.hasText", "stickful/arena.hasEdges", "stickful/arena.hasSize", "stickful/arena.hasValign", "stickful/arena.hasLines"], apart := false, laid := [("stickful/arena.hasKids", laid_stickful_arena_hasKids), ("stickful/arena.hasLines", laid_stickful_arena_hasLines), ("stickful/arena.hasText", laid_stickful_arena_hasText), ("stickful/arena.hasEdges", laid_stickful_arena_hasEdges), ("stickful/arena.hasSize", laid_stickful_arena_hasSize), ("stickful/arena.hasValign", laid_stickful_arena_hasValign), ("stickful/arena.isOfRuby", laid_stickful_arena_isOfRuby)], narrowed := true }
def ArenaDeepUptoSaid : Prop := arenaDeepUptoRow.holds Tryd.pinned (OpenSpec.upto arenaDeepSpec)

/-- 'stickfullaw07.ArenaAdds', WHERE WHAT IT READS IS OF BULK AT MOST 1048576: true; the input reads as it did. -/
def arenaAddsUptoRow : OpenClaim := { program := "ytgpobhnonjdamaadoor", sum := "8f0c99971add9603ad61d62fa5e8e543205260739bcac1fb3844a2a4234d0d15", func := "stickful/stickfullaw07.ArenaAdds", spec := "arenaAdds", unfollowed := true, recurses := true, named := ["stickful/arena.isOfRuby", "stickful/arena.hasKids", "stickful/arena.hasText", "stickful/arena.hasEdges", "stickful/arena.hasSize", "stickful/arena.hasValign", "stickful/arena.hasLines"], apart := false, laid := [("stickful/arena.hasKids", laid_stickful_arena_hasKids), ("stickful/arena.hasLines", laid_stickful_arena_hasLines), ("stickful/arena.hasText", laid_stickful_arena_hasText), ("stickful/arena.hasEdges", laid_stickful_arena_hasEdges), ("stickful/arena.hasSize", laid_stickful_arena_hasSize), ("stickful/arena.hasValign", laid_stickful_arena_hasValign), ("stickful/arena.isOfRuby", laid_stickful_arena_isOfRuby)], narrowed := true }
def ArenaAddsUptoSaid : Prop := arenaAddsUptoRow.holds Tryd.pinned (OpenSpec.upto arenaAddsSpec)

end Rows
end Go.Proofs.YtgpobhnonjdamaaDoor
