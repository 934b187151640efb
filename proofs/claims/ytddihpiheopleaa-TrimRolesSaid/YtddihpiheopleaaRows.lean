/-
  No cell of these rows narrows 'for every input' (looked for: loops, veiled, ifaces, maps, wideKeys, modest, calm, conditions, laid).
  DERIVED. THE GIVEN ROWS OF THIS SEAT. 4 by the template 'for every input the law returns true; each argument reads behind the call as it read before'; 0 by the template 'total and deterministic' (their statements: YtddihpiheopleaaTotals.lean).
  GIVEN WITH THE SEED: the statements are not yours to turn. If you find one false, say at which input.
  Laid BY PROGRAM, IN A SANDBOX (cutbox-rows.mjs): the forced cells as the released guide's own fill.sh prints them over the translation 3b1a1547468b2d55… (all of the seat's roots in one cut). By AI agents, Wed Nov 11 2026. No macro, syntax, notation, axiom, sorry.
-/
import Derived.Test.YtddihpiheopleaaChecked
import GoSem.Claim
import GoSem.ClaimJoined
import GoSem.ClaimMapViews
import Derived.JoinedTies
import Derived.KernelRfl
namespace Go.Proofs.Ytddihpiheopleaa
/- THE CELL 'sum', in the pinned program and in every row, IS THE sha256 OF THE DUMP (.gsa) THAT YtddihpiheopleaaProg.lean LOADS. Nothing in Lean hashes anything: it is a label: what it is worth is what the hold of that sum in a sandbox is worth. -/
noncomputable def Try.pinned : Pinned := { name := "ytddihpiheopleaa", sum := "3b1a1547468b2d550305101bcddfc60cf2fdc714f98cf41893baad70ec22d5e0", checked := Try.checked }
namespace Rows
def none {H : Type} : Left H := { results := [], args := [] }

/-- 'stickfullaw13.TrimRoles': WHATEVER THE INPUT: true; the input reads as it did. -/
def trimRolesSpec : ChangeSpec := { name := "trimRoles", fn := fun _ => fun
  | [d1, d2] => { results := [.lit (.bool true)], args := [d1, d2] }
  | _ => none }
def trimRolesRow : OpenClaim := { program := "ytddihpiheopleaa", sum := "3b1a1547468b2d550305101bcddfc60cf2fdc714f98cf41893baad70ec22d5e0", func := "stickful/stickfullaw13.TrimRoles", spec := "trimRoles", inPlace := ["math/bits.Add64"], unfollowed := true, recurses := true, apart := false }
def TrimRolesSaid : Prop := trimRolesRow.holds Try.pinned (OpenSpec.ofChange trimRolesSpec)

/-- ITS FALSE NEIGHBOUR: 'it returns false'. Refute it at one input. -/
def trimRolesWrong : ChangeSpec := { name := "trimRoles", fn := fun _ => fun
  | [d1, d2] => { results := [.lit (.bool false)], args := [d1, d2] }
  | _ => none }
def TrimRolesWrongFalsely : Prop := trimRolesRow.holds Try.pinned (OpenSpec.ofChange trimRolesWrong)

/-- 'stickfullaw13.TrimAgain': WHATEVER THE INPUT: true; the input reads as it did. -/
def trimAgainSpec : ChangeSpec := { name := "trimAgain", fn := fun _ => fun
  | [d] => { results := [.lit (.bool true)], args := [d] }
  | _ => none }
def trimAgainRow : OpenClaim := { program := "ytddihpiheopleaa", sum := "3b1a1547468b2d550305101bcddfc60cf2fdc714f98cf41893baad70ec22d5e0", func := "stickful/stickfullaw13.TrimAgain", spec := "trimAgain", inPlace := ["math/bits.Add64"], unfollowed := true, recurses := true, apart := false }
def TrimAgainSaid : Prop := trimAgainRow.holds Try.pinned (OpenSpec.ofChange trimAgainSpec)

/-- ITS FALSE NEIGHBOUR: 'it returns false'. Refute it at one input. -/
def trimAgainWrong : ChangeSpec := { name := "trimAgain", fn := fun _ => fun
  | [d] => { results := [.lit (.bool false)], args := [d] }
  | _ => none }
def TrimAgainWrongFalsely : Prop := trimAgainRow.holds Try.pinned (OpenSpec.ofChange trimAgainWrong)

/-- 'stickfullaw13.TrimEdges': WHATEVER THE INPUT: true; the input reads as it did. -/
def trimEdgesSpec : ChangeSpec := { name := "trimEdges", fn := fun _ => fun
  | [d1, d2, d3] => { results := [.lit (.bool true)], args := [d1, d2, d3] }
  | _ => none }
def trimEdgesRow : OpenClaim := { program := "ytddihpiheopleaa", sum := "3b1a1547468b2d550305101bcddfc60cf2fdc714f98cf41893baad70ec22d5e0", func := "stickful/stickfullaw13.TrimEdges", spec := "trimEdges", inPlace := ["math/bits.Add64"], unfollowed := true, recurses := true, apart := false }
def TrimEdgesSaid : Prop := trimEdgesRow.holds Try.pinned (OpenSpec.ofChange trimEdgesSpec)

/-- ITS FALSE NEIGHBOUR: 'it returns false'. Refute it at one input. -/
def trimEdgesWrong : ChangeSpec := { name := "trimEdges", fn := fun _ => fun
  | [d1, d2, d3] => { results := [.lit (.bool false)], args := [d1, d2, d3] }
  | _ => none }
def TrimEdgesWrongFalsely : Prop := trimEdgesRow.holds Try.pinned (OpenSpec.ofChange trimEdgesWrong)

/-- 'stickfullaw13.TrimBounds': WHATEVER THE INPUT: true; the input reads as it did. -/
def trimBoundsSpec : ChangeSpec := { name := "trimBounds", fn := fun _ => fun
  | [d1, d2] => { results := [.lit (.bool true)], args := [d1, d2] }
  | _ => none }
def trimBoundsRow : OpenClaim := { program := "ytddihpiheopleaa", sum := "3b1a1547468b2d550305101bcddfc60cf2fdc714f98cf41893baad70ec22d5e0", func := "stickful/stickfullaw13.TrimBounds", spec := "trimBounds", inPlace := ["math/bits.Add64"], unfollowed := true, recurses := true, apart := false }
def TrimBoundsSaid : Prop := trimBoundsRow.holds Try.pinned (OpenSpec.ofChange trimBoundsSpec)

/-- ITS FALSE NEIGHBOUR: 'it returns false'. Refute it at one input. -/
def trimBoundsWrong : ChangeSpec := { name := "trimBounds", fn := fun _ => fun
  | [d1, d2] => { results := [.lit (.bool false)], args := [d1, d2] }
  | _ => none }
def TrimBoundsWrongFalsely : Prop := trimBoundsRow.holds Try.pinned (OpenSpec.ofChange trimBoundsWrong)

/- THE SECOND FORM. 'bulk': how many values and letters a reading holds, each counted each time it is reached (what is shared counts as often as it is met; a slice's spare places count too). A statement '..UptoSaid' is the law's where the arguments, and the package variables that the reading takes, are together of bulk at most 1048576: NARROWER than '..Said'. Prove '..Said' where nothing that the law and all that it calls make is longer than what came in: it says more and counts as full. Else prove '..UptoSaid'. A law counts once. -/
mutual
def uptoBulk {H : Type} : DataW H → Nat
  | .lit (.string bytes) => bytes.length + 1
  | .lit _ => 1
  | .nil => 1
  | .ptr d => uptoBulk d + 1
  | .slice elems spare => uptoBulkAll elems + uptoBulkAll spare + 1
  | .agg parts => uptoBulkAll parts + 1
  | .iface _ d => uptoBulk d + 1
  | .map entries => uptoBulkEntries entries + 1
  | .held _ => 1
def uptoBulkAll {H : Type} : List (DataW H) → Nat
  | [] => 0
  | d :: r => uptoBulk d + uptoBulkAll r
def uptoBulkEntries {H : Type} : List (Lit × DataW H) → Nat
  | [] => 0
  | x :: r => uptoBulkEntry x + uptoBulkEntries r
def uptoBulkEntry {H : Type} : Lit × DataW H → Nat
  | (.string bytes, d) => bytes.length + uptoBulk d + 1
  | (_, d) => uptoBulk d + 1
 end
def uptoSmall : (H : Type) → List (DataW H) → Bool := fun _ ds => decide (uptoBulkAll ds ≤ 1048576)
def OpenSpec.upto (s : _root_.Go.ChangeSpec) : _root_.Go.OpenSpec := { _root_.Go.OpenSpec.ofChange s with cond := some uptoSmall }

/-- 'stickfullaw13.TrimRoles', WHERE WHAT IT READS IS OF BULK AT MOST 1048576: true; the input reads as it did. -/
def trimRolesUptoRow : OpenClaim := { program := "ytddihpiheopleaa", sum := "3b1a1547468b2d550305101bcddfc60cf2fdc714f98cf41893baad70ec22d5e0", func := "stickful/stickfullaw13.TrimRoles", spec := "trimRoles", inPlace := ["math/bits.Add64"], unfollowed := true, recurses := true, apart := false, narrowed := true }
def TrimRolesUptoSaid : Prop := trimRolesUptoRow.holds Try.pinned (OpenSpec.upto trimRolesSpec)

/-- 'stickfullaw13.TrimAgain', WHERE WHAT IT READS IS OF BULK AT MOST 1048576: true; the input reads as it did. -/
def trimAgainUptoRow : OpenClaim := { program := "ytddihpiheopleaa", sum := "3b1a1547468b2d550305101bcddfc60cf2fdc714f98cf41893baad70ec22d5e0", func := "stickful/stickfullaw13.TrimAgain", spec := "trimAgain", inPlace := ["math/bits.Add64"], unfollowed := true, recurses := true, apart := false, narrowed := true }
def TrimAgainUptoSaid : Prop := trimAgainUptoRow.holds Try.pinned (OpenSpec.upto trimAgainSpec)

/-- 'stickfullaw13.TrimEdges', WHERE WHAT IT READS IS OF BULK AT MOST 1048576: true; the input reads as it did. -/
def trimEdgesUptoRow : OpenClaim := { program := "ytddihpiheopleaa", sum := "3b1a1547468b2d550305101bcddfc60cf2fdc714f98cf41893baad70ec22d5e0", func := "stickful/stickfullaw13.TrimEdges", spec := "trimEdges", inPlace := ["math/bits.Add64"], unfollowed := true, recurses := true, apart := false, narrowed := true }
def TrimEdgesUptoSaid : Prop := trimEdgesUptoRow.holds Try.pinned (OpenSpec.upto trimEdgesSpec)

/-- 'stickfullaw13.TrimBounds', WHERE WHAT IT READS IS OF BULK AT MOST 1048576: true; the input reads as it did. -/
def trimBoundsUptoRow : OpenClaim := { program := "ytddihpiheopleaa", sum := "3b1a1547468b2d550305101bcddfc60cf2fdc714f98cf41893baad70ec22d5e0", func := "stickful/stickfullaw13.TrimBounds", spec := "trimBounds", inPlace := ["math/bits.Add64"], unfollowed := true, recurses := true, apart := false, narrowed := true }
def TrimBoundsUptoSaid : Prop := trimBoundsUptoRow.holds Try.pinned (OpenSpec.upto trimBoundsSpec)

end Rows
end Go.Proofs.Ytddihpiheopleaa
