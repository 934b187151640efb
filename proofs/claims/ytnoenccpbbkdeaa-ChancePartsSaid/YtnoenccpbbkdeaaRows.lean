/-
  No cell of these rows narrows 'for every input' (looked for: loops, veiled, ifaces, maps, wideKeys, modest, calm, conditions, laid).
  DERIVED. THE GIVEN ROWS OF THIS SEAT. 5 by the template 'for every input the law returns true; each argument reads behind the call as it read before'; 0 by the template 'total and deterministic' (their statements: YtnoenccpbbkdeaaTotals.lean).
  GIVEN WITH THE SEED: the statements are not yours to turn. If you find one false, say at which input.
  Laid BY PROGRAM, IN A SANDBOX (cutbox-rows.mjs): the forced cells as the released guide's own fill.sh prints them over the translation edd00b11f7d37893… (all of the seat's roots in one cut). By AI agents, Wed Nov 11 2026. No macro, syntax, notation, axiom, sorry.
-/
import Derived.Test.YtnoenccpbbkdeaaChecked
import GoSem.Claim
import GoSem.ClaimJoined
import GoSem.ClaimMapViews
import Derived.JoinedTies
import Derived.KernelRfl
namespace Go.Proofs.Ytnoenccpbbkdeaa
/- THE CELL 'sum', in the pinned program and in every row, IS THE sha256 OF THE DUMP (.gsa) THAT YtnoenccpbbkdeaaProg.lean LOADS. Nothing in Lean hashes anything: it is a label: what it is worth is what the hold of that sum in a sandbox is worth. -/
noncomputable def Try.pinned : Pinned := { name := "ytnoenccpbbkdeaa", sum := "edd00b11f7d37893c1954352cc8da58145e51ec380572fb46c5cda86e968a264", checked := Try.checked }
namespace Rows
def none {H : Type} : Left H := { results := [], args := [] }

/-- 'stickfullaw10.ChanceTells': WHATEVER THE INPUT: true; the input reads as it did. -/
def chanceTellsSpec : ChangeSpec := { name := "chanceTells", fn := fun _ => fun
  | [d] => { results := [.lit (.bool true)], args := [d] }
  | _ => none }
def chanceTellsRow : OpenClaim := { program := "ytnoenccpbbkdeaa", sum := "edd00b11f7d37893c1954352cc8da58145e51ec380572fb46c5cda86e968a264", func := "stickful/stickfullaw10.ChanceTells", spec := "chanceTells", unfollowed := true, recurses := true, apart := false }
def ChanceTellsSaid : Prop := chanceTellsRow.holds Try.pinned (OpenSpec.ofChange chanceTellsSpec)

/-- ITS FALSE NEIGHBOUR: 'it returns false'. Refute it at one input. -/
def chanceTellsWrong : ChangeSpec := { name := "chanceTells", fn := fun _ => fun
  | [d] => { results := [.lit (.bool false)], args := [d] }
  | _ => none }
def ChanceTellsWrongFalsely : Prop := chanceTellsRow.holds Try.pinned (OpenSpec.ofChange chanceTellsWrong)

/-- 'stickfullaw10.ChanceNone': WHATEVER THE INPUT: true; the input reads as it did. -/
def chanceNoneSpec : ChangeSpec := { name := "chanceNone", fn := fun _ => fun
  | [d] => { results := [.lit (.bool true)], args := [d] }
  | _ => none }
def chanceNoneRow : OpenClaim := { program := "ytnoenccpbbkdeaa", sum := "edd00b11f7d37893c1954352cc8da58145e51ec380572fb46c5cda86e968a264", func := "stickful/stickfullaw10.ChanceNone", spec := "chanceNone", unfollowed := true, recurses := true, apart := false }
def ChanceNoneSaid : Prop := chanceNoneRow.holds Try.pinned (OpenSpec.ofChange chanceNoneSpec)

/-- ITS FALSE NEIGHBOUR: 'it returns false'. Refute it at one input. -/
def chanceNoneWrong : ChangeSpec := { name := "chanceNone", fn := fun _ => fun
  | [d] => { results := [.lit (.bool false)], args := [d] }
  | _ => none }
def ChanceNoneWrongFalsely : Prop := chanceNoneRow.holds Try.pinned (OpenSpec.ofChange chanceNoneWrong)

/-- 'stickfullaw10.ChanceMore': WHATEVER THE INPUT: true; the input reads as it did. -/
def chanceMoreSpec : ChangeSpec := { name := "chanceMore", fn := fun _ => fun
  | [d] => { results := [.lit (.bool true)], args := [d] }
  | _ => none }
def chanceMoreRow : OpenClaim := { program := "ytnoenccpbbkdeaa", sum := "edd00b11f7d37893c1954352cc8da58145e51ec380572fb46c5cda86e968a264", func := "stickful/stickfullaw10.ChanceMore", spec := "chanceMore", unfollowed := true, recurses := true, apart := false }
def ChanceMoreSaid : Prop := chanceMoreRow.holds Try.pinned (OpenSpec.ofChange chanceMoreSpec)

/-- ITS FALSE NEIGHBOUR: 'it returns false'. Refute it at one input. -/
def chanceMoreWrong : ChangeSpec := { name := "chanceMore", fn := fun _ => fun
  | [d] => { results := [.lit (.bool false)], args := [d] }
  | _ => none }
def ChanceMoreWrongFalsely : Prop := chanceMoreRow.holds Try.pinned (OpenSpec.ofChange chanceMoreWrong)

/-- 'stickfullaw10.ChanceParts': WHATEVER THE INPUT: true; the input reads as it did. -/
def chancePartsSpec : ChangeSpec := { name := "chanceParts", fn := fun _ => fun
  | [d1, d2] => { results := [.lit (.bool true)], args := [d1, d2] }
  | _ => none }
def chancePartsRow : OpenClaim := { program := "ytnoenccpbbkdeaa", sum := "edd00b11f7d37893c1954352cc8da58145e51ec380572fb46c5cda86e968a264", func := "stickful/stickfullaw10.ChanceParts", spec := "chanceParts", unfollowed := true, recurses := true, apart := false }
def ChancePartsSaid : Prop := chancePartsRow.holds Try.pinned (OpenSpec.ofChange chancePartsSpec)

/-- ITS FALSE NEIGHBOUR: 'it returns false'. Refute it at one input. -/
def chancePartsWrong : ChangeSpec := { name := "chanceParts", fn := fun _ => fun
  | [d1, d2] => { results := [.lit (.bool false)], args := [d1, d2] }
  | _ => none }
def ChancePartsWrongFalsely : Prop := chancePartsRow.holds Try.pinned (OpenSpec.ofChange chancePartsWrong)

/-- 'stickfullaw10.ChanceAnywhere': WHATEVER THE INPUT: true; the input reads as it did. -/
def chanceAnywhereSpec : ChangeSpec := { name := "chanceAnywhere", fn := fun _ => fun
  | [d] => { results := [.lit (.bool true)], args := [d] }
  | _ => none }
def chanceAnywhereRow : OpenClaim := { program := "ytnoenccpbbkdeaa", sum := "edd00b11f7d37893c1954352cc8da58145e51ec380572fb46c5cda86e968a264", func := "stickful/stickfullaw10.ChanceAnywhere", spec := "chanceAnywhere", unfollowed := true, recurses := true, apart := false }
def ChanceAnywhereSaid : Prop := chanceAnywhereRow.holds Try.pinned (OpenSpec.ofChange chanceAnywhereSpec)

/-- ITS FALSE NEIGHBOUR: 'it returns false'. Refute it at one input. -/
def chanceAnywhereWrong : ChangeSpec := { name := "chanceAnywhere", fn := fun _ => fun
  | [d] => { results := [.lit (.bool false)], args := [d] }
  | _ => none }
def ChanceAnywhereWrongFalsely : Prop := chanceAnywhereRow.holds Try.pinned (OpenSpec.ofChange chanceAnywhereWrong)

/- THE SECOND FORM. 'bulk': how many values and letters a reading holds, each counted each time it is reached (what is shared counts as often as it is met; a slice's spare places count too). A statement '..UptoSaid' is the law's where the arguments, and the package variables that the reading takes, are together of bulk at most 1048576: NARROWER than '..Said'. Prove '..Said' where nothing that the law and all that it calls make is longer than what came in: it says more and counts as full. Else prove '..UptoSaid'. A law counts once. -/
mutual
def uptoBulk {H : Type} : DataW H → Nat
  | .lit (.string bytes) => bytes.length + 1
  | .lit _ => 1
  | .nil => 1
  | .ptr d => uptoBulk d + 1
  | .slice elems spare => uptoBulkAll elems + uptoBulkAll spare + 1
  | .agg parts => uptoBulkAll parts + 1
  | .iface _ d => uptoBulk d + 1
  | .map entries => uptoBulkEntries entries + 1
  | .held _ => 1
def uptoBulkAll {H : Type} : List (DataW H) → Nat
  | [] => 0
  | d :: r => uptoBulk d + uptoBulkAll r
def uptoBulkEntries {H : Type} : List (Lit × DataW H) → Nat
  | [] => 0
  | x :: r => uptoBulkEntry x + uptoBulkEntries r
def uptoBulkEntry {H : Type} : Lit × DataW H → Nat
  | (.string bytes, d) => bytes.length + uptoBulk d + 1
  | (_, d) => uptoBulk d + 1
 end
def uptoSmall : (H : Type) → List (DataW H) → Bool := fun _ ds => decide (uptoBulkAll ds ≤ 1048576)
def OpenSpec.upto (s : _root_.Go.ChangeSpec) : _root_.Go.OpenSpec := { _root_.Go.OpenSpec.ofChange s with cond := some uptoSmall }

/-- 'stickfullaw10.ChanceTells', WHERE WHAT IT READS IS OF BULK AT MOST 1048576: true; the input reads as it did. -/
def chanceTellsUptoRow : OpenClaim := { program := "ytnoenccpbbkdeaa", sum := "edd00b11f7d37893c1954352cc8da58145e51ec380572fb46c5cda86e968a264", func := "stickful/stickfullaw10.ChanceTells", spec := "chanceTells", unfollowed := true, recurses := true, apart := false, narrowed := true }
def ChanceTellsUptoSaid : Prop := chanceTellsUptoRow.holds Try.pinned (OpenSpec.upto chanceTellsSpec)

/-- 'stickfullaw10.ChanceNone', WHERE WHAT IT READS IS OF BULK AT MOST 1048576: true; the input reads as it did. -/
def chanceNoneUptoRow : OpenClaim := { program := "ytnoenccpbbkdeaa", sum := "edd00b11f7d37893c1954352cc8da58145e51ec380572fb46c5cda86e968a264", func := "stickful/stickfullaw10.ChanceNone", spec := "chanceNone", unfollowed := true, recurses := true, apart := false, narrowed := true }
def ChanceNoneUptoSaid : Prop := chanceNoneUptoRow.holds Try.pinned (OpenSpec.upto chanceNoneSpec)

/-- 'stickfullaw10.ChanceMore', WHERE WHAT IT READS IS OF BULK AT MOST 1048576: true; the input reads as it did. -/
def chanceMoreUptoRow : OpenClaim := { program := "ytnoenccpbbkdeaa", sum := "edd00b11f7d37893c1954352cc8da58145e51ec380572fb46c5cda86e968a264", func := "stickful/stickfullaw10.ChanceMore", spec := "chanceMore", unfollowed := true, recurses := true, apart := false, narrowed := true }
def ChanceMoreUptoSaid : Prop := chanceMoreUptoRow.holds Try.pinned (OpenSpec.upto chanceMoreSpec)

/-- 'stickfullaw10.ChanceParts', WHERE WHAT IT READS IS OF BULK AT MOST 1048576: true; the input reads as it did. -/
def chancePartsUptoRow : OpenClaim := { program := "ytnoenccpbbkdeaa", sum := "edd00b11f7d37893c1954352cc8da58145e51ec380572fb46c5cda86e968a264", func := "stickful/stickfullaw10.ChanceParts", spec := "chanceParts", unfollowed := true, recurses := true, apart := false, narrowed := true }
def ChancePartsUptoSaid : Prop := chancePartsUptoRow.holds Try.pinned (OpenSpec.upto chancePartsSpec)

/-- 'stickfullaw10.ChanceAnywhere', WHERE WHAT IT READS IS OF BULK AT MOST 1048576: true; the input reads as it did. -/
def chanceAnywhereUptoRow : OpenClaim := { program := "ytnoenccpbbkdeaa", sum := "edd00b11f7d37893c1954352cc8da58145e51ec380572fb46c5cda86e968a264", func := "stickful/stickfullaw10.ChanceAnywhere", spec := "chanceAnywhere", unfollowed := true, recurses := true, apart := false, narrowed := true }
def ChanceAnywhereUptoSaid : Prop := chanceAnywhereUptoRow.holds Try.pinned (OpenSpec.upto chanceAnywhereSpec)

end Rows
end Go.Proofs.Ytnoenccpbbkdeaa
