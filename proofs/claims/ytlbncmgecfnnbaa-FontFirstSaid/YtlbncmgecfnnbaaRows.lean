/-
  No cell of these rows narrows 'for every input' (looked for: loops, veiled, ifaces, maps, wideKeys, modest, calm, conditions, laid).
  DERIVED. THE GIVEN ROWS OF THIS SEAT. 4 by the template 'for every input the law returns true; each argument reads behind the call as it read before'; 0 by the template 'total and deterministic' (their statements: YtlbncmgecfnnbaaTotals.lean).
  GIVEN WITH THE SEED: the statements are not yours to turn. If you find one false, say at which input.
  Laid BY PROGRAM, IN A SANDBOX (cutbox-rows.mjs): the forced cells as the released guide's own fill.sh prints them over the translation a5f1303e8486d088… (all of the seat's roots in one cut). By AI agents, Wed Nov 11 2026. No macro, syntax, notation, axiom, sorry.
-/
import Derived.Test.YtlbncmgecfnnbaaChecked
import GoSem.Claim
import GoSem.ClaimJoined
import GoSem.ClaimMapViews
import Derived.JoinedTies
import Derived.KernelRfl
namespace Go.Proofs.Ytlbncmgecfnnbaa
/- THE CELL 'sum', in the pinned program and in every row, IS THE sha256 OF THE DUMP (.gsa) THAT YtlbncmgecfnnbaaProg.lean LOADS. Nothing in Lean hashes anything: it is a label: what it is worth is what the hold of that sum in a sandbox is worth. -/
noncomputable def Try.pinned : Pinned := { name := "ytlbncmgecfnnbaa", sum := "a5f1303e8486d088c6aea44754c556ca601c9fa5d39f60a425b2a1817d462129", checked := Try.checked }
namespace Rows
def none {H : Type} : Left H := { results := [], args := [] }

/-- 'stickfullaw05.FontTells': WHATEVER THE INPUT: true; the input reads as it did. -/
def fontTellsSpec : ChangeSpec := { name := "fontTells", fn := fun _ => fun
  | [d1, d2, d3] => { results := [.lit (.bool true)], args := [d1, d2, d3] }
  | _ => none }
def fontTellsRow : OpenClaim := { program := "ytlbncmgecfnnbaa", sum := "a5f1303e8486d088c6aea44754c556ca601c9fa5d39f60a425b2a1817d462129", func := "stickful/stickfullaw05.FontTells", spec := "fontTells", inPlace := ["math/bits.Add64"], unfollowed := true, recurses := true, named := ["math/bits.divideError", "math/bits.overflowError"], apart := false }
def FontTellsSaid : Prop := fontTellsRow.holds Try.pinned (OpenSpec.ofChange fontTellsSpec)

/-- ITS FALSE NEIGHBOUR: 'it returns false'. Refute it at one input. -/
def fontTellsWrong : ChangeSpec := { name := "fontTells", fn := fun _ => fun
  | [d1, d2, d3] => { results := [.lit (.bool false)], args := [d1, d2, d3] }
  | _ => none }
def FontTellsWrongFalsely : Prop := fontTellsRow.holds Try.pinned (OpenSpec.ofChange fontTellsWrong)

/-- 'stickfullaw05.FontTexts': WHATEVER THE INPUT: true; the input reads as it did. -/
def fontTextsSpec : ChangeSpec := { name := "fontTexts", fn := fun _ => fun
  | [d1, d2, d3] => { results := [.lit (.bool true)], args := [d1, d2, d3] }
  | _ => none }
def fontTextsRow : OpenClaim := { program := "ytlbncmgecfnnbaa", sum := "a5f1303e8486d088c6aea44754c556ca601c9fa5d39f60a425b2a1817d462129", func := "stickful/stickfullaw05.FontTexts", spec := "fontTexts", inPlace := ["math/bits.Add64"], unfollowed := true, recurses := true, named := ["math/bits.divideError", "math/bits.overflowError"], apart := false }
def FontTextsSaid : Prop := fontTextsRow.holds Try.pinned (OpenSpec.ofChange fontTextsSpec)

/-- ITS FALSE NEIGHBOUR: 'it returns false'. Refute it at one input. -/
def fontTextsWrong : ChangeSpec := { name := "fontTexts", fn := fun _ => fun
  | [d1, d2, d3] => { results := [.lit (.bool false)], args := [d1, d2, d3] }
  | _ => none }
def FontTextsWrongFalsely : Prop := fontTextsRow.holds Try.pinned (OpenSpec.ofChange fontTextsWrong)

/-- 'stickfullaw05.FontGrows': WHATEVER THE INPUT: true; the input reads as it did. -/
def fontGrowsSpec : ChangeSpec := { name := "fontGrows", fn := fun _ => fun
  | [d1, d2, d3] => { results := [.lit (.bool true)], args := [d1, d2, d3] }
  | _ => none }
def fontGrowsRow : OpenClaim := { program := "ytlbncmgecfnnbaa", sum := "a5f1303e8486d088c6aea44754c556ca601c9fa5d39f60a425b2a1817d462129", func := "stickful/stickfullaw05.FontGrows", spec := "fontGrows", inPlace := ["math/bits.Add64"], unfollowed := true, recurses := true, named := ["math/bits.divideError", "math/bits.overflowError"], apart := false }
def FontGrowsSaid : Prop := fontGrowsRow.holds Try.pinned (OpenSpec.ofChange fontGrowsSpec)

/-- ITS FALSE NEIGHBOUR: 'it returns false'. Refute it at one input. -/
def fontGrowsWrong : ChangeSpec := { name := "fontGrows", fn := fun _ => fun
  | [d1, d2, d3] => { results := [.lit (.bool false)], args := [d1, d2, d3] }
  | _ => none }
def FontGrowsWrongFalsely : Prop := fontGrowsRow.holds Try.pinned (OpenSpec.ofChange fontGrowsWrong)

/-- 'stickfullaw05.FontFirst': WHATEVER THE INPUT: true; the input reads as it did. -/
def fontFirstSpec : ChangeSpec := { name := "fontFirst", fn := fun _ => fun
  | [d1, d2] => { results := [.lit (.bool true)], args := [d1, d2] }
  | _ => none }
def fontFirstRow : OpenClaim := { program := "ytlbncmgecfnnbaa", sum := "a5f1303e8486d088c6aea44754c556ca601c9fa5d39f60a425b2a1817d462129", func := "stickful/stickfullaw05.FontFirst", spec := "fontFirst", inPlace := ["math/bits.Add64"], unfollowed := true, recurses := true, named := ["math/bits.divideError", "math/bits.overflowError"], apart := false }
def FontFirstSaid : Prop := fontFirstRow.holds Try.pinned (OpenSpec.ofChange fontFirstSpec)

/-- ITS FALSE NEIGHBOUR: 'it returns false'. Refute it at one input. -/
def fontFirstWrong : ChangeSpec := { name := "fontFirst", fn := fun _ => fun
  | [d1, d2] => { results := [.lit (.bool false)], args := [d1, d2] }
  | _ => none }
def FontFirstWrongFalsely : Prop := fontFirstRow.holds Try.pinned (OpenSpec.ofChange fontFirstWrong)

/- THE SECOND FORM. 'bulk': how many values and letters a reading holds, each counted each time it is reached (what is shared counts as often as it is met; a slice's spare places count too). A statement '..UptoSaid' is the law's where the arguments, and the package variables that the reading takes, are together of bulk at most 1048576: NARROWER than '..Said'. Prove '..Said' where nothing that the law and all that it calls make is longer than what came in: it says more and counts as full. Else prove '..UptoSaid'. A law counts once. -/
mutual
def uptoBulk {H : Type} : DataW H → Nat
  | .lit (.string bytes) => bytes.length + 1
  | .lit _ => 1
  | .nil => 1
  | .ptr d => uptoBulk d + 1
  | .slice elems spare => uptoBulkAll elems + uptoBulkAll spare + 1
  | .agg parts => uptoBulkAll parts + 1
  | .iface _ d => uptoBulk d + 1
  | .map entries => uptoBulkEntries entries + 1
  | .held _ => 1
def uptoBulkAll {H : Type} : List (DataW H) → Nat
  | [] => 0
  | d :: r => uptoBulk d + uptoBulkAll r
def uptoBulkEntries {H : Type} : List (Lit × DataW H) → Nat
  | [] => 0
  | x :: r => uptoBulkEntry x + uptoBulkEntries r
def uptoBulkEntry {H : Type} : Lit × DataW H → Nat
  | (.string bytes, d) => bytes.length + uptoBulk d + 1
  | (_, d) => uptoBulk d + 1
 end
def uptoSmall : (H : Type) → List (DataW H) → Bool := fun _ ds => decide (uptoBulkAll ds ≤ 1048576)
def OpenSpec.upto (s : _root_.Go.ChangeSpec) : _root_.Go.OpenSpec := { _root_.Go.OpenSpec.ofChange s with cond := some uptoSmall }

/-- 'stickfullaw05.FontTells', WHERE WHAT IT READS IS OF BULK AT MOST 1048576: true; the input reads as it did. -/
def fontTellsUptoRow : OpenClaim := { program := "ytlbncmgecfnnbaa", sum := "a5f1303e8486d088c6aea44754c556ca601c9fa5d39f60a425b2a1817d462129", func := "stickful/stickfullaw05.FontTells", spec := "fontTells", inPlace := ["math/bits.Add64"], unfollowed := true, recurses := true, named := ["math/bits.divideError", "math/bits.overflowError"], apart := false, narrowed := true }
def FontTellsUptoSaid : Prop := fontTellsUptoRow.holds Try.pinned (OpenSpec.upto fontTellsSpec)

/-- 'stickfullaw05.FontTexts', WHERE WHAT IT READS IS OF BULK AT MOST 1048576: true; the input reads as it did. -/
def fontTextsUptoRow : OpenClaim := { program := "ytlbncmgecfnnbaa", sum := "a5f1303e8486d088c6aea44754c556ca601c9fa5d39f60a425b2a1817d462129", func := "stickful/stickfullaw05.FontTexts", spec := "fontTexts", inPlace := ["math/bits.Add64"], unfollowed := true, recurses := true, named := ["math/bits.divideError", "math/bits.overflowError"], apart := false, narrowed := true }
def FontTextsUptoSaid : Prop := fontTextsUptoRow.holds Try.pinned (OpenSpec.upto fontTextsSpec)

/-- 'stickfullaw05.FontGrows', WHERE WHAT IT READS IS OF BULK AT MOST 1048576: true; the input reads as it did. -/
def fontGrowsUptoRow : OpenClaim := { program := "ytlbncmgecfnnbaa", sum := "a5f1303e8486d088c6aea44754c556ca601c9fa5d39f60a425b2a1817d462129", func := "stickful/stickfullaw05.FontGrows", spec := "fontGrows", inPlace := ["math/bits.Add64"], unfollowed := true, recurses := true, named := ["math/bits.divideError", "math/bits.overflowError"], apart := false, narrowed := true }
def FontGrowsUptoSaid : Prop := fontGrowsUptoRow.holds Try.pinned (OpenSpec.upto fontGrowsSpec)

/-- 'stickfullaw05.FontFirst', WHERE WHAT IT READS IS OF BULK AT MOST 1048576: true; the input reads as it did. -/
def fontFirstUptoRow : OpenClaim := { program := "ytlbncmgecfnnbaa", sum := "a5f1303e8486d088c6aea44754c556ca601c9fa5d39f60a425b2a1817d462129", func := "stickful/stickfullaw05.FontFirst", spec := "fontFirst", inPlace := ["math/bits.Add64"], unfollowed := true, recurses := true, named := ["math/bits.divideError", "math/bits.overflowError"], apart := false, narrowed := true }
def FontFirstUptoSaid : Prop := fontFirstUptoRow.holds Try.pinned (OpenSpec.upto fontFirstSpec)

end Rows
end Go.Proofs.Ytlbncmgecfnnbaa
