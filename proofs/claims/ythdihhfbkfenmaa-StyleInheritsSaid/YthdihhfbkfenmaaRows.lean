/-
  No cell of these rows narrows 'for every input' (looked for: loops, veiled, ifaces, maps, wideKeys, modest, calm, conditions, laid).
  DERIVED. THE GIVEN ROWS OF THIS SEAT. 5 by the template 'for every input the law returns true; each argument reads behind the call as it read before'; 0 by the template 'total and deterministic' (their statements: YthdihhfbkfenmaaTotals.lean).
  GIVEN WITH THE SEED: the statements are not yours to turn. If you find one false, say at which input.
  Laid BY PROGRAM, IN A SANDBOX (cutbox-rows.mjs): the forced cells as the released guide's own fill.sh prints them over the translation b8b172536082f0b0… (all of the seat's roots in one cut). By AI agents, Wed Nov 11 2026. No macro, syntax, notation, axiom, sorry.
-/
import Derived.Test.YthdihhfbkfenmaaChecked
import GoSem.Claim
import GoSem.ClaimJoined
import GoSem.ClaimMapViews
import Derived.JoinedTies
import Derived.KernelRfl
namespace Go.Proofs.Ythdihhfbkfenmaa
/- THE CELL 'sum', in the pinned program and in every row, IS THE sha256 OF THE DUMP (.gsa) THAT YthdihhfbkfenmaaProg.lean LOADS. Nothing in Lean hashes anything: it is a label: what it is worth is what the hold of that sum in a sandbox is worth. -/
noncomputable def Try.pinned : Pinned := { name := "ythdihhfbkfenmaa", sum := "b8b172536082f0b0512712075048fd4877a9abdb7556d871332ceb0daaf04894", checked := Try.checked }
namespace Rows
def none {H : Type} : Left H := { results := [], args := [] }

/-- 'stickfullaw06.StyleTells': WHATEVER THE INPUT: true; the input reads as it did. -/
def styleTellsSpec : ChangeSpec := { name := "styleTells", fn := fun _ => fun
  | [d1, d2, d3] => { results := [.lit (.bool true)], args := [d1, d2, d3] }
  | _ => none }
def styleTellsRow : OpenClaim := { program := "ythdihhfbkfenmaa", sum := "b8b172536082f0b0512712075048fd4877a9abdb7556d871332ceb0daaf04894", func := "stickful/stickfullaw06.StyleTells", spec := "styleTells", unfollowed := true, recurses := true, apart := false }
def StyleTellsSaid : Prop := styleTellsRow.holds Try.pinned (OpenSpec.ofChange styleTellsSpec)

/-- ITS FALSE NEIGHBOUR: 'it returns false'. Refute it at one input. -/
def styleTellsWrong : ChangeSpec := { name := "styleTells", fn := fun _ => fun
  | [d1, d2, d3] => { results := [.lit (.bool false)], args := [d1, d2, d3] }
  | _ => none }
def StyleTellsWrongFalsely : Prop := styleTellsRow.holds Try.pinned (OpenSpec.ofChange styleTellsWrong)

/-- 'stickfullaw06.StyleNodes': WHATEVER THE INPUT: true; the input reads as it did. -/
def styleNodesSpec : ChangeSpec := { name := "styleNodes", fn := fun _ => fun
  | [d1, d2, d3] => { results := [.lit (.bool true)], args := [d1, d2, d3] }
  | _ => none }
def styleNodesRow : OpenClaim := { program := "ythdihhfbkfenmaa", sum := "b8b172536082f0b0512712075048fd4877a9abdb7556d871332ceb0daaf04894", func := "stickful/stickfullaw06.StyleNodes", spec := "styleNodes", unfollowed := true, recurses := true, apart := false }
def StyleNodesSaid : Prop := styleNodesRow.holds Try.pinned (OpenSpec.ofChange styleNodesSpec)

/-- ITS FALSE NEIGHBOUR: 'it returns false'. Refute it at one input. -/
def styleNodesWrong : ChangeSpec := { name := "styleNodes", fn := fun _ => fun
  | [d1, d2, d3] => { results := [.lit (.bool false)], args := [d1, d2, d3] }
  | _ => none }
def StyleNodesWrongFalsely : Prop := styleNodesRow.holds Try.pinned (OpenSpec.ofChange styleNodesWrong)

/-- 'stickfullaw06.StyleMerges': WHATEVER THE INPUT: true; the input reads as it did. -/
def styleMergesSpec : ChangeSpec := { name := "styleMerges", fn := fun _ => fun
  | [d1, d2] => { results := [.lit (.bool true)], args := [d1, d2] }
  | _ => none }
def styleMergesRow : OpenClaim := { program := "ythdihhfbkfenmaa", sum := "b8b172536082f0b0512712075048fd4877a9abdb7556d871332ceb0daaf04894", func := "stickful/stickfullaw06.StyleMerges", spec := "styleMerges", unfollowed := true, recurses := true, apart := false }
def StyleMergesSaid : Prop := styleMergesRow.holds Try.pinned (OpenSpec.ofChange styleMergesSpec)

/-- ITS FALSE NEIGHBOUR: 'it returns false'. Refute it at one input. -/
def styleMergesWrong : ChangeSpec := { name := "styleMerges", fn := fun _ => fun
  | [d1, d2] => { results := [.lit (.bool false)], args := [d1, d2] }
  | _ => none }
def StyleMergesWrongFalsely : Prop := styleMergesRow.holds Try.pinned (OpenSpec.ofChange styleMergesWrong)

/-- 'stickfullaw06.StyleInherits': WHATEVER THE INPUT: true; the input reads as it did. -/
def styleInheritsSpec : ChangeSpec := { name := "styleInherits", fn := fun _ => fun
  | [d1, d2, d3] => { results := [.lit (.bool true)], args := [d1, d2, d3] }
  | _ => none }
def styleInheritsRow : OpenClaim := { program := "ythdihhfbkfenmaa", sum := "b8b172536082f0b0512712075048fd4877a9abdb7556d871332ceb0daaf04894", func := "stickful/stickfullaw06.StyleInherits", spec := "styleInherits", unfollowed := true, recurses := true, apart := false }
def StyleInheritsSaid : Prop := styleInheritsRow.holds Try.pinned (OpenSpec.ofChange styleInheritsSpec)

/-- ITS FALSE NEIGHBOUR: 'it returns false'. Refute it at one input. -/
def styleInheritsWrong : ChangeSpec := { name := "styleInherits", fn := fun _ => fun
  | [d1, d2, d3] => { results := [.lit (.bool false)], args := [d1, d2, d3] }
  | _ => none }
def StyleInheritsWrongFalsely : Prop := styleInheritsRow.holds Try.pinned (OpenSpec.ofChange styleInheritsWrong)

/-- 'stickfullaw06.StyleApart': WHATEVER THE INPUT: true; the input reads as it did. -/
def styleApartSpec : ChangeSpec := { name := "styleApart", fn := fun _ => fun
  | [d1, d2, d3] => { results := [.lit (.bool true)], args := [d1, d2, d3] }
  | _ => none }
def styleApartRow : OpenClaim := { program := "ythdihhfbkfenmaa", sum := "b8b172536082f0b0512712075048fd4877a9abdb7556d871332ceb0daaf04894", func := "stickful/stickfullaw06.StyleApart", spec := "styleApart", unfollowed := true, recurses := true, apart := false }
def StyleApartSaid : Prop := styleApartRow.holds Try.pinned (OpenSpec.ofChange styleApartSpec)

/-- ITS FALSE NEIGHBOUR: 'it returns false'. Refute it at one input. -/
def styleApartWrong : ChangeSpec := { name := "styleApart", fn := fun _ => fun
  | [d1, d2, d3] => { results := [.lit (.bool false)], args := [d1, d2, d3] }
  | _ => none }
def StyleApartWrongFalsely : Prop := styleApartRow.holds Try.pinned (OpenSpec.ofChange styleApartWrong)

/- THE SECOND FORM. 'bulk': how many values and letters a reading holds, each counted each time it is reached (what is shared counts as often as it is met; a slice's spare places count too). A statement '..UptoSaid' is the law's where the arguments, and the package variables that the reading takes, are together of bulk at most 1048576: NARROWER than '..Said'. Prove '..Said' where nothing that the law and all that it calls make is longer than what came in: it says more and counts as full. Else prove '..UptoSaid'. A law counts once. -/
mutual
def uptoBulk {H : Type} : DataW H → Nat
  | .lit (.string bytes) => bytes.length + 1
  | .lit _ => 1
  | .nil => 1
  | .ptr d => uptoBulk d + 1
  | .slice elems spare => uptoBulkAll elems + uptoBulkAll spare + 1
  | .agg parts => uptoBulkAll parts + 1
  | .iface _ d => uptoBulk d + 1
  | .map entries => uptoBulkEntries entries + 1
  | .held _ => 1
def uptoBulkAll {H : Type} : List (DataW H) → Nat
  | [] => 0
  | d :: r => uptoBulk d + uptoBulkAll r
def uptoBulkEntries {H : Type} : List (Lit × DataW H) → Nat
  | [] => 0
  | x :: r => uptoBulkEntry x + uptoBulkEntries r
def uptoBulkEntry {H : Type} : Lit × DataW H → Nat
  | (.string bytes, d) => bytes.length + uptoBulk d + 1
  | (_, d) => uptoBulk d + 1
 end
def uptoSmall : (H : Type) → List (DataW H) → Bool := fun _ ds => decide (uptoBulkAll ds ≤ 1048576)
def OpenSpec.upto (s : _root_.Go.ChangeSpec) : _root_.Go.OpenSpec := { _root_.Go.OpenSpec.ofChange s with cond := some uptoSmall }

/-- 'stickfullaw06.StyleTells', WHERE WHAT IT READS IS OF BULK AT MOST 1048576: true; the input reads as it did. -/
def styleTellsUptoRow : OpenClaim := { program := "ythdihhfbkfenmaa", sum := "b8b172536082f0b0512712075048fd4877a9abdb7556d871332ceb0daaf04894", func := "stickful/stickfullaw06.StyleTells", spec := "styleTells", unfollowed := true, recurses := true, apart := false, narrowed := true }
def StyleTellsUptoSaid : Prop := styleTellsUptoRow.holds Try.pinned (OpenSpec.upto styleTellsSpec)

/-- 'stickfullaw06.StyleNodes', WHERE WHAT IT READS IS OF BULK AT MOST 1048576: true; the input reads as it did. -/
def styleNodesUptoRow : OpenClaim := { program := "ythdihhfbkfenmaa", sum := "b8b172536082f0b0512712075048fd4877a9abdb7556d871332ceb0daaf04894", func := "stickful/stickfullaw06.StyleNodes", spec := "styleNodes", unfollowed := true, recurses := true, apart := false, narrowed := true }
def StyleNodesUptoSaid : Prop := styleNodesUptoRow.holds Try.pinned (OpenSpec.upto styleNodesSpec)

/-- 'stickfullaw06.StyleMerges', WHERE WHAT IT READS IS OF BULK AT MOST 1048576: true; the input reads as it did. -/
def styleMergesUptoRow : OpenClaim := { program := "ythdihhfbkfenmaa", sum := "b8b172536082f0b0512712075048fd4877a9abdb7556d871332ceb0daaf04894", func := "stickful/stickfullaw06.StyleMerges", spec := "styleMerges", unfollowed := true, recurses := true, apart := false, narrowed := true }
def StyleMergesUptoSaid : Prop := styleMergesUptoRow.holds Try.pinned (OpenSpec.upto styleMergesSpec)

/-- 'stickfullaw06.StyleInherits', WHERE WHAT IT READS IS OF BULK AT MOST 1048576: true; the input reads as it did. -/
def styleInheritsUptoRow : OpenClaim := { program := "ythdihhfbkfenmaa", sum := "b8b172536082f0b0512712075048fd4877a9abdb7556d871332ceb0daaf04894", func := "stickful/stickfullaw06.StyleInherits", spec := "styleInherits", unfollowed := true, recurses := true, apart := false, narrowed := true }
def StyleInheritsUptoSaid : Prop := styleInheritsUptoRow.holds Try.pinned (OpenSpec.upto styleInheritsSpec)

/-- 'stickfullaw06.StyleApart', WHERE WHAT IT READS IS OF BULK AT MOST 1048576: true; the input reads as it did. -/
def styleApartUptoRow : OpenClaim := { program := "ythdihhfbkfenmaa", sum := "b8b172536082f0b0512712075048fd4877a9abdb7556d871332ceb0daaf04894", func := "stickful/stickfullaw06.StyleApart", spec := "styleApart", unfollowed := true, recurses := true, apart := false, narrowed := true }
def StyleApartUptoSaid : Prop := styleApartUptoRow.holds Try.pinned (OpenSpec.upto styleApartSpec)

end Rows
end Go.Proofs.Ythdihhfbkfenmaa
