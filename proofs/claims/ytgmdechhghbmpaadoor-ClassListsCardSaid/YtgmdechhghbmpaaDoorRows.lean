/-
  NARROWER THAN 'FOR EVERY INPUT', by the rows' own cells (each row's printed sentence says how): ClassOf: laid · ClassNear: laid · ClassLists: laid · ClassOnce: laid.
  DERIVED. THE GIVEN ROWS OF THIS SEAT. 4 by the template 'for every input the law returns true; each argument reads behind the call as it read before'; 0 by the template 'total and deterministic' (their statements: YtgmdechhghbmpaaDoorTotals.lean).
  GIVEN WITH THE SEED: the statements are not yours to turn. If you find one false, say at which input.
  Laid BY PROGRAM, IN A SANDBOX (cutbox-rows.mjs): the forced cells as the released guide's own fill.sh prints them over the translation 225ac5e4b32be061… (all of the seat's roots in one cut). By AI agents, Wed Nov 11 2026. No macro, syntax, notation, axiom, sorry.
-/
import Derived.Test.YtgmdechhghbmpaaDoorChecked
import GoSem.Claim
import GoSem.ClaimJoined
import GoSem.ClaimMapViews
import Derived.JoinedTies
import Derived.KernelRfl
namespace Go.Proofs.YtgmdechhghbmpaaDoor
/- THE CELL 'sum', in the pinned program and in every row, IS THE sha256 OF THE DUMP (.gsa) THAT YtgmdechhghbmpaaDoorProg.lean LOADS. Nothing in Lean hashes anything: it is a label: what it is worth is what the hold of that sum in a sandbox is worth. -/
noncomputable def Tryd.pinned : Pinned := { name := "ytgmdechhghbmpaadoor", sum := "225ac5e4b32be061a86f5d0983c763c83f3fe42bc8c17e0bd5bd06e08ad17a6a", checked := Tryd.checked }
namespace Rows
def none {H : Type} : Left H := { results := [], args := [] }

/- WHAT THE LISTED PACKAGE-LEVEL VARIABLES READ AS WHEN THE CALL BEGINS. Each datum BY PROGRAM (the guide's laid-datum.mjs) off the statement by which the dump's own 'gosem.cut.vars' lays the variable. In a bare row this is a premise. The card (YtgmdechhghbmpaaDoorCards.lean) ties it to the program's text. -/
def laid_stickful_class_wides {H : Type} : DataW H := .agg [.agg [.lit (.int .i32 4352), .lit (.int .i32 4447)], .agg [.lit (.int .i32 11904), .lit (.int .i32 12350)], .agg [.lit (.int .i32 12353), .lit (.int .i32 42191)], .agg [.lit (.int .i32 44032), .lit (.int .i32 55203)], .agg [.lit (.int .i32 63744), .lit (.int .i32 64255)], .agg [.lit (.int .i32 65072), .lit (.int .i32 65103)], .agg [.lit (.int .i32 65281), .lit (.int .i32 65376)], .agg [.lit (.int .i32 65504), .lit (.int .i32 65510)], .agg [.lit (.int .i32 127744), .lit (.int .i32 128591)], .agg [.lit (.int .i32 129280), .lit (.int .i32 129535)], .agg [.lit (.int .i32 131072), .lit (.int .i32 262141)]]

/-- 'stickfullaw04.ClassOf': WHATEVER THE INPUT: true; the input reads as it did. -/
def classOfSpec : ChangeSpec := { name := "classOf", fn := fun _ => fun
  | [d] => { results := [.lit (.bool true)], args := [d] }
  | _ => none }
def classOfRow : OpenClaim := { program := "ytgmdechhghbmpaadoor", sum := "225ac5e4b32be061a86f5d0983c763c83f3fe42bc8c17e0bd5bd06e08ad17a6a", func := "stickful/stickfullaw04.ClassOf", spec := "classOf", unfollowed := true, recurses := true, named := ["stickful/class.wides"], apart := false, laid := [("stickful/class.wides", laid_stickful_class_wides)] }
def ClassOfSaid : Prop := classOfRow.holds Tryd.pinned (OpenSpec.ofChange classOfSpec)

/-- ITS FALSE NEIGHBOUR: 'it returns false'. Refute it at one input. -/
def classOfWrong : ChangeSpec := { name := "classOf", fn := fun _ => fun
  | [d] => { results := [.lit (.bool false)], args := [d] }
  | _ => none }
def ClassOfWrongFalsely : Prop := classOfRow.holds Tryd.pinned (OpenSpec.ofChange classOfWrong)

/-- 'stickfullaw04.ClassNear': WHATEVER THE INPUT: true; the input reads as it did. -/
def classNearSpec : ChangeSpec := { name := "classNear", fn := fun _ => fun
  | [d] => { results := [.lit (.bool true)], args := [d] }
  | _ => none }
def classNearRow : OpenClaim := { program := "ytgmdechhghbmpaadoor", sum := "225ac5e4b32be061a86f5d0983c763c83f3fe42bc8c17e0bd5bd06e08ad17a6a", func := "stickful/stickfullaw04.ClassNear", spec := "classNear", unfollowed := true, recurses := true, named := ["stickful/class.wides"], apart := false, laid := [("stickful/class.wides", laid_stickful_class_wides)] }
def ClassNearSaid : Prop := classNearRow.holds Tryd.pinned (OpenSpec.ofChange classNearSpec)

/-- ITS FALSE NEIGHBOUR: 'it returns false'. Refute it at one input. -/
def classNearWrong : ChangeSpec := { name := "classNear", fn := fun _ => fun
  | [d] => { results := [.lit (.bool false)], args := [d] }
  | _ => none }
def ClassNearWrongFalsely : Prop := classNearRow.holds Tryd.pinned (OpenSpec.ofChange classNearWrong)

/-- 'stickfullaw04.ClassLists': WHATEVER THE INPUT: true; the input reads as it did. -/
def classListsSpec : ChangeSpec := { name := "classLists", fn := fun _ => fun
  | [d1, d2] => { results := [.lit (.bool true)], args := [d1, d2] }
  | _ => none }
def classListsRow : OpenClaim := { program := "ytgmdechhghbmpaadoor", sum := "225ac5e4b32be061a86f5d0983c763c83f3fe42bc8c17e0bd5bd06e08ad17a6a", func := "stickful/stickfullaw04.ClassLists", spec := "classLists", unfollowed := true, recurses := true, named := ["stickful/class.wides"], apart := false, laid := [("stickful/class.wides", laid_stickful_class_wides)] }
def ClassListsSaid : Prop := classListsRow.holds Tryd.pinned (OpenSpec.ofChange classListsSpec)

/-- ITS FALSE NEIGHBOUR: 'it returns false'. Refute it at one input. -/
def classListsWrong : ChangeSpec := { name := "classLists", fn := fun _ => fun
  | [d1, d2] => { results := [.lit (.bool false)], args := [d1, d2] }
  | _ => none }
def ClassListsWrongFalsely : Prop := classListsRow.holds Tryd.pinned (OpenSpec.ofChange classListsWrong)

/-- 'stickfullaw04.ClassOnce': WHATEVER THE INPUT: true; the input reads as it did. -/
def classOnceSpec : ChangeSpec := { name := "classOnce", fn := fun _ => fun
  | [d] => { results := [.lit (.bool true)], args := [d] }
  | _ => none }
def classOnceRow : OpenClaim := { program := "ytgmdechhghbmpaadoor", sum := "225ac5e4b32be061a86f5d0983c763c83f3fe42bc8c17e0bd5bd06e08ad17a6a", func := "stickful/stickfullaw04.ClassOnce", spec := "classOnce", unfollowed := true, recurses := true, named := ["stickful/class.wides"], apart := false, laid := [("stickful/class.wides", laid_stickful_class_wides)] }
def ClassOnceSaid : Prop := classOnceRow.holds Tryd.pinned (OpenSpec.ofChange classOnceSpec)

/-- ITS FALSE NEIGHBOUR: 'it returns false'. Refute it at one input. -/
def classOnceWrong : ChangeSpec := { name := "classOnce", fn := fun _ => fun
  | [d] => { results := [.lit (.bool false)], args := [d] }
  | _ => none }
def ClassOnceWrongFalsely : Prop := classOnceRow.holds Tryd.pinned (OpenSpec.ofChange classOnceWrong)

/- THE SECOND FORM. 'bulk': how many values and letters a reading holds, each counted each time it is reached (what is shared counts as often as it is met; a slice's spare places count too). A statement '..UptoSaid' is the law's where the arguments, and the package variables that the reading takes, are together of bulk at most 1048576: NARROWER than '..Said'. Prove '..Said' where nothing that the law and all that it calls make is longer than what came in: it says more and counts as full. Else prove '..UptoSaid'. A law counts once. -/
mutual
def uptoBulk {H : Type} : DataW H → Nat
  | .lit (.string bytes) => bytes.length + 1
  | .lit _ => 1
  | .nil => 1
  | .ptr d => uptoBulk d + 1
  | .slice elems spare => uptoBulkAll elems + uptoBulkAll spare + 1
  | .agg parts => uptoBulkAll parts + 1
  | .iface _ d => uptoBulk d + 1
  | .map entries => uptoBulkEntries entries + 1
  | .held _ => 1
def uptoBulkAll {H : Type} : List (DataW H) → Nat
  | [] => 0
  | d :: r => uptoBulk d + uptoBulkAll r
def uptoBulkEntries {H : Type} : List (Lit × DataW H) → Nat
  | [] => 0
  | x :: r => uptoBulkEntry x + uptoBulkEntries r
def uptoBulkEntry {H : Type} : Lit × DataW H → Nat
  | (.string bytes, d) => bytes.length + uptoBulk d + 1
  | (_, d) => uptoBulk d + 1
 end
def uptoSmall : (H : Type) → List (DataW H) → Bool := fun _ ds => decide (uptoBulkAll ds ≤ 1048576)
def OpenSpec.upto (s : _root_.Go.ChangeSpec) : _root_.Go.OpenSpec := { _root_.Go.OpenSpec.ofChange s with cond := some uptoSmall }

/-- 'stickfullaw04.ClassOf', WHERE WHAT IT READS IS OF BULK AT MOST 1048576: true; the input reads as it did. -/
def classOfUptoRow : OpenClaim := { program := "ytgmdechhghbmpaadoor", sum := "225ac5e4b32be061a86f5d0983c763c83f3fe42bc8c17e0bd5bd06e08ad17a6a", func := "stickful/stickfullaw04.ClassOf", spec := "classOf", unfollowed := true, recurses := true, named := ["stickful/class.wides"], apart := false, laid := [("stickful/class.wides", laid_stickful_class_wides)], narrowed := true }
def ClassOfUptoSaid : Prop := classOfUptoRow.holds Tryd.pinned (OpenSpec.upto classOfSpec)

/-- 'stickfullaw04.ClassNear', WHERE WHAT IT READS IS OF BULK AT MOST 1048576: true; the input reads as it did. -/
def classNearUptoRow : OpenClaim := { program := "ytgmdechhghbmpaadoor", sum := "225ac5e4b32be061a86f5d0983c763c83f3fe42bc8c17e0bd5bd06e08ad17a6a", func := "stickful/stickfullaw04.ClassNear", spec := "classNear", unfollowed := true, recurses := true, named := ["stickful/class.wides"], apart := false, laid := [("stickful/class.wides", laid_stickful_class_wides)], narrowed := true }
def ClassNearUptoSaid : Prop := classNearUptoRow.holds Tryd.pinned (OpenSpec.upto classNearSpec)

/-- 'stickfullaw04.ClassLists', WHERE WHAT IT READS IS OF BULK AT MOST 1048576: true; the input reads as it did. -/
def classListsUptoRow : OpenClaim := { program := "ytgmdechhghbmpaadoor", sum := "225ac5e4b32be061a86f5d0983c763c83f3fe42bc8c17e0bd5bd06e08ad17a6a", func := "stickful/stickfullaw04.ClassLists", spec := "classLists", unfollowed := true, recurses := true, named := ["stickful/class.wides"], apart := false, laid := [("stickful/class.wides", laid_stickful_class_wides)], narrowed := true }
def ClassListsUptoSaid : Prop := classListsUptoRow.holds Tryd.pinned (OpenSpec.upto classListsSpec)

/-- 'stickfullaw04.ClassOnce', WHERE WHAT IT READS IS OF BULK AT MOST 1048576: true; the input reads as it did. -/
def classOnceUptoRow : OpenClaim := { program := "ytgmdechhghbmpaadoor", sum := "225ac5e4b32be061a86f5d0983c763c83f3fe42bc8c17e0bd5bd06e08ad17a6a", func := "stickful/stickfullaw04.ClassOnce", spec := "classOnce", unfollowed := true, recurses := true, named := ["stickful/class.wides"], apart := false, laid := [("stickful/class.wides", laid_stickful_class_wides)], narrowed := true }
def ClassOnceUptoSaid : Prop := classOnceUptoRow.holds Tryd.pinned (OpenSpec.upto classOnceSpec)

end Rows
end Go.Proofs.YtgmdechhghbmpaaDoor
