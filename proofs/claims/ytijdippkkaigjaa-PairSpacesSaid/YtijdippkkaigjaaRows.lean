/-
  No cell of these rows narrows 'for every input' (looked for: loops, veiled, ifaces, maps, wideKeys, modest, calm, conditions, laid).
  DERIVED. THE GIVEN ROWS OF THIS SEAT. 6 by the template 'for every input the law returns true; each argument reads behind the call as it read before'; 0 by the template 'total and deterministic' (their statements: YtijdippkkaigjaaTotals.lean).
  GIVEN WITH THE SEED: the statements are not yours to turn. If you find one false, say at which input.
  Laid BY PROGRAM, IN A SANDBOX (cutbox-rows.mjs): the forced cells as the released guide's own fill.sh prints them over the translation 100a7b289624ee98… (all of the seat's roots in one cut). By AI agents, Wed Nov 11 2026. No macro, syntax, notation, axiom, sorry.
-/
import Derived.Test.YtijdippkkaigjaaChecked
import GoSem.Claim
import GoSem.ClaimJoined
import GoSem.ClaimMapViews
import Derived.JoinedTies
import Derived.KernelRfl
namespace Go.Proofs.Ytijdippkkaigjaa
/- THE CELL 'sum', in the pinned program and in every row, IS THE sha256 OF THE DUMP (.gsa) THAT YtijdippkkaigjaaProg.lean LOADS. Nothing in Lean hashes anything: it is a label: what it is worth is what the hold of that sum in a sandbox is worth. -/
noncomputable def Try.pinned : Pinned := { name := "ytijdippkkaigjaa", sum := "100a7b289624ee98040be554ffd494356e164c363f69c5c743f800d44a4564c2", checked := Try.checked }
namespace Rows
def none {H : Type} : Left H := { results := [], args := [] }

/-- 'stickfullaw09.PairTells': WHATEVER THE INPUT: true; the input reads as it did. -/
def pairTellsSpec : ChangeSpec := { name := "pairTells", fn := fun _ => fun
  | [d] => { results := [.lit (.bool true)], args := [d] }
  | _ => none }
def pairTellsRow : OpenClaim := { program := "ytijdippkkaigjaa", sum := "100a7b289624ee98040be554ffd494356e164c363f69c5c743f800d44a4564c2", func := "stickful/stickfullaw09.PairTells", spec := "pairTells", unfollowed := true, recurses := true, apart := false }
def PairTellsSaid : Prop := pairTellsRow.holds Try.pinned (OpenSpec.ofChange pairTellsSpec)

/-- ITS FALSE NEIGHBOUR: 'it returns false'. Refute it at one input. -/
def pairTellsWrong : ChangeSpec := { name := "pairTells", fn := fun _ => fun
  | [d] => { results := [.lit (.bool false)], args := [d] }
  | _ => none }
def PairTellsWrongFalsely : Prop := pairTellsRow.holds Try.pinned (OpenSpec.ofChange pairTellsWrong)

/-- 'stickfullaw09.PairTwo': WHATEVER THE INPUT: true; the input reads as it did. -/
def pairTwoSpec : ChangeSpec := { name := "pairTwo", fn := fun _ => fun
  | [d1, d2, d3] => { results := [.lit (.bool true)], args := [d1, d2, d3] }
  | _ => none }
def pairTwoRow : OpenClaim := { program := "ytijdippkkaigjaa", sum := "100a7b289624ee98040be554ffd494356e164c363f69c5c743f800d44a4564c2", func := "stickful/stickfullaw09.PairTwo", spec := "pairTwo", unfollowed := true, recurses := true, apart := false }
def PairTwoSaid : Prop := pairTwoRow.holds Try.pinned (OpenSpec.ofChange pairTwoSpec)

/-- ITS FALSE NEIGHBOUR: 'it returns false'. Refute it at one input. -/
def pairTwoWrong : ChangeSpec := { name := "pairTwo", fn := fun _ => fun
  | [d1, d2, d3] => { results := [.lit (.bool false)], args := [d1, d2, d3] }
  | _ => none }
def PairTwoWrongFalsely : Prop := pairTwoRow.holds Try.pinned (OpenSpec.ofChange pairTwoWrong)

/-- 'stickfullaw09.PairAhead': WHATEVER THE INPUT: true; the input reads as it did. -/
def pairAheadSpec : ChangeSpec := { name := "pairAhead", fn := fun _ => fun
  | [d1, d2] => { results := [.lit (.bool true)], args := [d1, d2] }
  | _ => none }
def pairAheadRow : OpenClaim := { program := "ytijdippkkaigjaa", sum := "100a7b289624ee98040be554ffd494356e164c363f69c5c743f800d44a4564c2", func := "stickful/stickfullaw09.PairAhead", spec := "pairAhead", unfollowed := true, recurses := true, apart := false }
def PairAheadSaid : Prop := pairAheadRow.holds Try.pinned (OpenSpec.ofChange pairAheadSpec)

/-- ITS FALSE NEIGHBOUR: 'it returns false'. Refute it at one input. -/
def pairAheadWrong : ChangeSpec := { name := "pairAhead", fn := fun _ => fun
  | [d1, d2] => { results := [.lit (.bool false)], args := [d1, d2] }
  | _ => none }
def PairAheadWrongFalsely : Prop := pairAheadRow.holds Try.pinned (OpenSpec.ofChange pairAheadWrong)

/-- 'stickfullaw09.PairMarks': WHATEVER THE INPUT: true; the input reads as it did. -/
def pairMarksSpec : ChangeSpec := { name := "pairMarks", fn := fun _ => fun
  | [d1, d2] => { results := [.lit (.bool true)], args := [d1, d2] }
  | _ => none }
def pairMarksRow : OpenClaim := { program := "ytijdippkkaigjaa", sum := "100a7b289624ee98040be554ffd494356e164c363f69c5c743f800d44a4564c2", func := "stickful/stickfullaw09.PairMarks", spec := "pairMarks", unfollowed := true, recurses := true, apart := false }
def PairMarksSaid : Prop := pairMarksRow.holds Try.pinned (OpenSpec.ofChange pairMarksSpec)

/-- ITS FALSE NEIGHBOUR: 'it returns false'. Refute it at one input. -/
def pairMarksWrong : ChangeSpec := { name := "pairMarks", fn := fun _ => fun
  | [d1, d2] => { results := [.lit (.bool false)], args := [d1, d2] }
  | _ => none }
def PairMarksWrongFalsely : Prop := pairMarksRow.holds Try.pinned (OpenSpec.ofChange pairMarksWrong)

/-- 'stickfullaw09.PairSpaces': WHATEVER THE INPUT: true; the input reads as it did. -/
def pairSpacesSpec : ChangeSpec := { name := "pairSpaces", fn := fun _ => fun
  | [d1, d2] => { results := [.lit (.bool true)], args := [d1, d2] }
  | _ => none }
def pairSpacesRow : OpenClaim := { program := "ytijdippkkaigjaa", sum := "100a7b289624ee98040be554ffd494356e164c363f69c5c743f800d44a4564c2", func := "stickful/stickfullaw09.PairSpaces", spec := "pairSpaces", unfollowed := true, recurses := true, apart := false }
def PairSpacesSaid : Prop := pairSpacesRow.holds Try.pinned (OpenSpec.ofChange pairSpacesSpec)

/-- ITS FALSE NEIGHBOUR: 'it returns false'. Refute it at one input. -/
def pairSpacesWrong : ChangeSpec := { name := "pairSpaces", fn := fun _ => fun
  | [d1, d2] => { results := [.lit (.bool false)], args := [d1, d2] }
  | _ => none }
def PairSpacesWrongFalsely : Prop := pairSpacesRow.holds Try.pinned (OpenSpec.ofChange pairSpacesWrong)

/-- 'stickfullaw09.PairAlike': WHATEVER THE INPUT: true; the input reads as it did. -/
def pairAlikeSpec : ChangeSpec := { name := "pairAlike", fn := fun _ => fun
  | [d1, d2] => { results := [.lit (.bool true)], args := [d1, d2] }
  | _ => none }
def pairAlikeRow : OpenClaim := { program := "ytijdippkkaigjaa", sum := "100a7b289624ee98040be554ffd494356e164c363f69c5c743f800d44a4564c2", func := "stickful/stickfullaw09.PairAlike", spec := "pairAlike", unfollowed := true, recurses := true, apart := false }
def PairAlikeSaid : Prop := pairAlikeRow.holds Try.pinned (OpenSpec.ofChange pairAlikeSpec)

/-- ITS FALSE NEIGHBOUR: 'it returns false'. Refute it at one input. -/
def pairAlikeWrong : ChangeSpec := { name := "pairAlike", fn := fun _ => fun
  | [d1, d2] => { results := [.lit (.bool false)], args := [d1, d2] }
  | _ => none }
def PairAlikeWrongFalsely : Prop := pairAlikeRow.holds Try.pinned (OpenSpec.ofChange pairAlikeWrong)

/- THE SECOND FORM. 'bulk': how many values and letters a reading holds, each counted each time it is reached (what is shared counts as often as it is met; a slice's spare places count too). A statement '..UptoSaid' is the law's where the arguments, and the package variables that the reading takes, are together of bulk at most 1048576: NARROWER than '..Said'. Prove '..Said' where nothing that the law and all that it calls make is longer than what came in: it says more and counts as full. Else prove '..UptoSaid'. A law counts once. -/
mutual
def uptoBulk {H : Type} : DataW H → Nat
  | .lit (.string bytes) => bytes.length + 1
  | .lit _ => 1
  | .nil => 1
  | .ptr d => uptoBulk d + 1
  | .slice elems spare => uptoBulkAll elems + uptoBulkAll spare + 1
  | .agg parts => uptoBulkAll parts + 1
  | .iface _ d => uptoBulk d + 1
  | .map entries => uptoBulkEntries entries + 1
  | .held _ => 1
def uptoBulkAll {H : Type} : List (DataW H) → Nat
  | [] => 0
  | d :: r => uptoBulk d + uptoBulkAll r
def uptoBulkEntries {H : Type} : List (Lit × DataW H) → Nat
  | [] => 0
  | x :: r => uptoBulkEntry x + uptoBulkEntries r
def uptoBulkEntry {H : Type} : Lit × DataW H → Nat
  | (.string bytes, d) => bytes.length + uptoBulk d + 1
  | (_, d) => uptoBulk d + 1
 end
def uptoSmall : (H : Type) → List (DataW H) → Bool := fun _ ds => decide (uptoBulkAll ds ≤ 1048576)
def OpenSpec.upto (s : _root_.Go.ChangeSpec) : _root_.Go.OpenSpec := { _root_.Go.OpenSpec.ofChange s with cond := some uptoSmall }

/-- 'stickfullaw09.PairTells', WHERE WHAT IT READS IS OF BULK AT MOST 1048576: true; the input reads as it did. -/
def pairTellsUptoRow : OpenClaim := { program := "ytijdippkkaigjaa", sum := "100a7b289624ee98040be554ffd494356e164c363f69c5c743f800d44a4564c2", func := "stickful/stickfullaw09.PairTells", spec := "pairTells", unfollowed := true, recurses := true, apart := false, narrowed := true }
def PairTellsUptoSaid : Prop := pairTellsUptoRow.holds Try.pinned (OpenSpec.upto pairTellsSpec)

/-- 'stickfullaw09.PairTwo', WHERE WHAT IT READS IS OF BULK AT MOST 1048576: true; the input reads as it did. -/
def pairTwoUptoRow : OpenClaim := { program := "ytijdippkkaigjaa", sum := "100a7b289624ee98040be554ffd494356e164c363f69c5c743f800d44a4564c2", func := "stickful/stickfullaw09.PairTwo", spec := "pairTwo", unfollowed := true, recurses := true, apart := false, narrowed := true }
def PairTwoUptoSaid : Prop := pairTwoUptoRow.holds Try.pinned (OpenSpec.upto pairTwoSpec)

/-- 'stickfullaw09.PairAhead', WHERE WHAT IT READS IS OF BULK AT MOST 1048576: true; the input reads as it did. -/
def pairAheadUptoRow : OpenClaim := { program := "ytijdippkkaigjaa", sum := "100a7b289624ee98040be554ffd494356e164c363f69c5c743f800d44a4564c2", func := "stickful/stickfullaw09.PairAhead", spec := "pairAhead", unfollowed := true, recurses := true, apart := false, narrowed := true }
def PairAheadUptoSaid : Prop := pairAheadUptoRow.holds Try.pinned (OpenSpec.upto pairAheadSpec)

/-- 'stickfullaw09.PairMarks', WHERE WHAT IT READS IS OF BULK AT MOST 1048576: true; the input reads as it did. -/
def pairMarksUptoRow : OpenClaim := { program := "ytijdippkkaigjaa", sum := "100a7b289624ee98040be554ffd494356e164c363f69c5c743f800d44a4564c2", func := "stickful/stickfullaw09.PairMarks", spec := "pairMarks", unfollowed := true, recurses := true, apart := false, narrowed := true }
def PairMarksUptoSaid : Prop := pairMarksUptoRow.holds Try.pinned (OpenSpec.upto pairMarksSpec)

/-- 'stickfullaw09.PairSpaces', WHERE WHAT IT READS IS OF BULK AT MOST 1048576: true; the input reads as it did. -/
def pairSpacesUptoRow : OpenClaim := { program := "ytijdippkkaigjaa", sum := "100a7b289624ee98040be554ffd494356e164c363f69c5c743f800d44a4564c2", func := "stickful/stickfullaw09.PairSpaces", spec := "pairSpaces", unfollowed := true, recurses := true, apart := false, narrowed := true }
def PairSpacesUptoSaid : Prop := pairSpacesUptoRow.holds Try.pinned (OpenSpec.upto pairSpacesSpec)

/-- 'stickfullaw09.PairAlike', WHERE WHAT IT READS IS OF BULK AT MOST 1048576: true; the input reads as it did. -/
def pairAlikeUptoRow : OpenClaim := { program := "ytijdippkkaigjaa", sum := "100a7b289624ee98040be554ffd494356e164c363f69c5c743f800d44a4564c2", func := "stickful/stickfullaw09.PairAlike", spec := "pairAlike", unfollowed := true, recurses := true, apart := false, narrowed := true }
def PairAlikeUptoSaid : Prop := pairAlikeUptoRow.holds Try.pinned (OpenSpec.upto pairAlikeSpec)

end Rows
end Go.Proofs.Ytijdippkkaigjaa
