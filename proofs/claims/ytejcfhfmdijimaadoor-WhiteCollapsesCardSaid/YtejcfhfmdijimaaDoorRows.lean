/-
  NARROWER THAN 'FOR EVERY INPUT', by the rows' own cells (each row's printed sentence says how): WhiteCollapses: laid · WhiteOrder: laid · WhiteAlone: laid · WhiteAgain: laid · WhiteParts: laid.
  DERIVED. THE GIVEN ROWS OF THIS SEAT. 5 by the template 'for every input the law returns true; each argument reads behind the call as it read before'; 0 by the template 'total and deterministic' (their statements: YtejcfhfmdijimaaDoorTotals.lean).
  GIVEN WITH THE SEED: the statements are not yours to turn. If you find one false, say at which input.
  Laid BY PROGRAM, IN A SANDBOX (cutbox-rows.mjs): the forced cells as the released guide's own fill.sh prints them over the translation 46a1de248687f5a8… (all of the seat's roots in one cut). By AI agents, Wed Nov 11 2026. No macro, syntax, notation, axiom, sorry.
-/
import Derived.Test.YtejcfhfmdijimaaDoorChecked
import GoSem.Claim
import GoSem.ClaimJoined
import GoSem.ClaimMapViews
import Derived.JoinedTies
import Derived.KernelRfl
namespace Go.Proofs.YtejcfhfmdijimaaDoor
/- THE CELL 'sum', in the pinned program and in every row, IS THE sha256 OF THE DUMP (.gsa) THAT YtejcfhfmdijimaaDoorProg.lean LOADS. Nothing in Lean hashes anything: it is a label: what it is worth is what the hold of that sum in a sandbox is worth. -/
noncomputable def Tryd.pinned : Pinned := { name := "ytejcfhfmdijimaadoor", sum := "46a1de248687f5a8846255bce7395ac5795a330c9db3c9cf70a9fb0e45c659c1", checked := Tryd.checked }
namespace Rows
def none {H : Type} : Left H := { results := [], args := [] }

/- WHAT THE LISTED PACKAGE-LEVEL VARIABLES READ AS WHEN THE CALL BEGINS. Each datum BY PROGRAM (the guide's laid-datum.mjs) off the statement by which the dump's own 'gosem.cut.vars' lays the variable. In a bare row this is a premise. The card (YtejcfhfmdijimaaDoorCards.lean) ties it to the program's text. -/
def laid_stickful_class_wides {H : Type} : DataW H := .agg [.agg [.lit (.int .i32 4352), .lit (.int .i32 4447)], .agg [.lit (.int .i32 11904), .lit (.int .i32 12350)], .agg [.lit (.int .i32 12353), .lit (.int .i32 42191)], .agg [.lit (.int .i32 44032), .lit (.int .i32 55203)], .agg [.lit (.int .i32 63744), .lit (.int .i32 64255)], .agg [.lit (.int .i32 65072), .lit (.int .i32 65103)], .agg [.lit (.int .i32 65281), .lit (.int .i32 65376)], .agg [.lit (.int .i32 65504), .lit (.int .i32 65510)], .agg [.lit (.int .i32 127744), .lit (.int .i32 128591)], .agg [.lit (.int .i32 129280), .lit (.int .i32 129535)], .agg [.lit (.int .i32 131072), .lit (.int .i32 262141)]]

/-- 'stickfullaw08.WhiteCollapses': WHATEVER THE INPUT: true; the input reads as it did. -/
def whiteCollapsesSpec : ChangeSpec := { name := "whiteCollapses", fn := fun _ => fun
  | [d1, d2] => { results := [.lit (.bool true)], args := [d1, d2] }
  | _ => none }
def whiteCollapsesRow : OpenClaim := { program := "ytejcfhfmdijimaadoor", sum := "46a1de248687f5a8846255bce7395ac5795a330c9db3c9cf70a9fb0e45c659c1", func := "stickful/stickfullaw08.WhiteCollapses", spec := "whiteCollapses", unfollowed := true, recurses := true, named := ["stickful/class.wides"], apart := false, laid := [("stickful/class.wides", laid_stickful_class_wides)] }
def WhiteCollapsesSaid : Prop := whiteCollapsesRow.holds Tryd.pinned (OpenSpec.ofChange whiteCollapsesSpec)

/-- ITS FALSE NEIGHBOUR: 'it returns false'. Refute it at one input. -/
def whiteCollapsesWrong : ChangeSpec := { name := "whiteCollapses", fn := fun _ => fun
  | [d1, d2] => { results := [.lit (.bool false)], args := [d1, d2] }
  | _ => none }
def WhiteCollapsesWrongFalsely : Prop := whiteCollapsesRow.holds Tryd.pinned (OpenSpec.ofChange whiteCollapsesWrong)

/-- 'stickfullaw08.WhiteOrder': WHATEVER THE INPUT: true; the input reads as it did. -/
def whiteOrderSpec : ChangeSpec := { name := "whiteOrder", fn := fun _ => fun
  | [d1, d2] => { results := [.lit (.bool true)], args := [d1, d2] }
  | _ => none }
def whiteOrderRow : OpenClaim := { program := "ytejcfhfmdijimaadoor", sum := "46a1de248687f5a8846255bce7395ac5795a330c9db3c9cf70a9fb0e45c659c1", func := "stickful/stickfullaw08.WhiteOrder", spec := "whiteOrder", unfollowed := true, recurses := true, named := ["stickful/class.wides"], apart := false, laid := [("stickful/class.wides", laid_stickful_class_wides)] }
def WhiteOrderSaid : Prop := whiteOrderRow.holds Tryd.pinned (OpenSpec.ofChange whiteOrderSpec)

/-- ITS FALSE NEIGHBOUR: 'it returns false'. Refute it at one input. -/
def whiteOrderWrong : ChangeSpec := { name := "whiteOrder", fn := fun _ => fun
  | [d1, d2] => { results := [.lit (.bool false)], args := [d1, d2] }
  | _ => none }
def WhiteOrderWrongFalsely : Prop := whiteOrderRow.holds Tryd.pinned (OpenSpec.ofChange whiteOrderWrong)

/-- 'stickfullaw08.WhiteAlone': WHATEVER THE INPUT: true; the input reads as it did. -/
def whiteAloneSpec : ChangeSpec := { name := "whiteAlone", fn := fun _ => fun
  | [d1, d2] => { results := [.lit (.bool true)], args := [d1, d2] }
  | _ => none }
def whiteAloneRow : OpenClaim := { program := "ytejcfhfmdijimaadoor", sum := "46a1de248687f5a8846255bce7395ac5795a330c9db3c9cf70a9fb0e45c659c1", func := "stickful/stickfullaw08.WhiteAlone", spec := "whiteAlone", unfollowed := true, recurses := true, named := ["stickful/class.wides"], apart := false, laid := [("stickful/class.wides", laid_stickful_class_wides)] }
def WhiteAloneSaid : Prop := whiteAloneRow.holds Tryd.pinned (OpenSpec.ofChange whiteAloneSpec)

/-- ITS FALSE NEIGHBOUR: 'it returns false'. Refute it at one input. -/
def whiteAloneWrong : ChangeSpec := { name := "whiteAlone", fn := fun _ => fun
  | [d1, d2] => { results := [.lit (.bool false)], args := [d1, d2] }
  | _ => none }
def WhiteAloneWrongFalsely : Prop := whiteAloneRow.holds Tryd.pinned (OpenSpec.ofChange whiteAloneWrong)

/-- 'stickfullaw08.WhiteAgain': WHATEVER THE INPUT: true; the input reads as it did. -/
def whiteAgainSpec : ChangeSpec := { name := "whiteAgain", fn := fun _ => fun
  | [d1, d2] => { results := [.lit (.bool true)], args := [d1, d2] }
  | _ => none }
def whiteAgainRow : OpenClaim := { program := "ytejcfhfmdijimaadoor", sum := "46a1de248687f5a8846255bce7395ac5795a330c9db3c9cf70a9fb0e45c659c1", func := "stickful/stickfullaw08.WhiteAgain", spec := "whiteAgain", unfollowed := true, recurses := true, named := ["stickful/class.wides"], apart := false, laid := [("stickful/class.wides", laid_stickful_class_wides)] }
def WhiteAgainSaid : Prop := whiteAgainRow.holds Tryd.pinned (OpenSpec.ofChange whiteAgainSpec)

/-- ITS FALSE NEIGHBOUR: 'it returns false'. Refute it at one input. -/
def whiteAgainWrong : ChangeSpec := { name := "whiteAgain", fn := fun _ => fun
  | [d1, d2] => { results := [.lit (.bool false)], args := [d1, d2] }
  | _ => none }
def WhiteAgainWrongFalsely : Prop := whiteAgainRow.holds Tryd.pinned (OpenSpec.ofChange whiteAgainWrong)

/-- 'stickfullaw08.WhiteParts': WHATEVER THE INPUT: true; the input reads as it did. -/
def whitePartsSpec : ChangeSpec := { name := "whiteParts", fn := fun _ => fun
  | [d1, d2, d3] => { results := [.lit (.bool true)], args := [d1, d2, d3] }
  | _ => none }
def whitePartsRow : OpenClaim := { program := "ytejcfhfmdijimaadoor", sum := "46a1de248687f5a8846255bce7395ac5795a330c9db3c9cf70a9fb0e45c659c1", func := "stickful/stickfullaw08.WhiteParts", spec := "whiteParts", unfollowed := true, recurses := true, named := ["stickful/class.wides"], apart := false, laid := [("stickful/class.wides", laid_stickful_class_wides)] }
def WhitePartsSaid : Prop := whitePartsRow.holds Tryd.pinned (OpenSpec.ofChange whitePartsSpec)

/-- ITS FALSE NEIGHBOUR: 'it returns false'. Refute it at one input. -/
def whitePartsWrong : ChangeSpec := { name := "whiteParts", fn := fun _ => fun
  | [d1, d2, d3] => { results := [.lit (.bool false)], args := [d1, d2, d3] }
  | _ => none }
def WhitePartsWrongFalsely : Prop := whitePartsRow.holds Tryd.pinned (OpenSpec.ofChange whitePartsWrong)

/- THE SECOND FORM. 'bulk': how many values and letters a reading holds, each counted each time it is reached (what is shared counts as often as it is met; a slice's spare places count too). A statement '..UptoSaid' is the law's where the arguments, and the package variables that the reading takes, are together of bulk at most 1048576: NARROWER than '..Said'. Prove '..Said' where nothing that the law and all that it calls make is longer than what came in: it says more and counts as full. Else prove '..UptoSaid'. A law counts once. -/
mutual
def uptoBulk {H : Type} : DataW H → Nat
  | .lit (.string bytes) => bytes.length + 1
  | .lit _ => 1
  | .nil => 1
  | .ptr d => uptoBulk d + 1
  | .slice elems spare => uptoBulkAll elems + uptoBulkAll spare + 1
  | .agg parts => uptoBulkAll parts + 1
  | .iface _ d => uptoBulk d + 1
  | .map entries => uptoBulkEntries entries + 1
  | .held _ => 1
def uptoBulkAll {H : Type} : List (DataW H) → Nat
  | [] => 0
  | d :: r => uptoBulk d + uptoBulkAll r
def uptoBulkEntries {H : Type} : List (Lit × DataW H) → Nat
  | [] => 0
  | x :: r => uptoBulkEntry x + uptoBulkEntries r
def uptoBulkEntry {H : Type} : Lit × DataW H → Nat
  | (.string bytes, d) => bytes.length + uptoBulk d + 1
  | (_, d) => uptoBulk d + 1
 end
def uptoSmall : (H : Type) → List (DataW H) → Bool := fun _ ds => decide (uptoBulkAll ds ≤ 1048576)
def OpenSpec.upto (s : _root_.Go.ChangeSpec) : _root_.Go.OpenSpec := { _root_.Go.OpenSpec.ofChange s with cond := some uptoSmall }

/-- 'stickfullaw08.WhiteCollapses', WHERE WHAT IT READS IS OF BULK AT MOST 1048576: true; the input reads as it did. -/
def whiteCollapsesUptoRow : OpenClaim := { program := "ytejcfhfmdijimaadoor", sum := "46a1de248687f5a8846255bce7395ac5795a330c9db3c9cf70a9fb0e45c659c1", func := "stickful/stickfullaw08.WhiteCollapses", spec := "whiteCollapses", unfollowed := true, recurses := true, named := ["stickful/class.wides"], apart := false, laid := [("stickful/class.wides", laid_stickful_class_wides)], narrowed := true }
def WhiteCollapsesUptoSaid : Prop := whiteCollapsesUptoRow.holds Tryd.pinned (OpenSpec.upto whiteCollapsesSpec)

/-- 'stickfullaw08.WhiteOrder', WHERE WHAT IT READS IS OF BULK AT MOST 1048576: true; the input reads as it did. -/
def whiteOrderUptoRow : OpenClaim := { program := "ytejcfhfmdijimaadoor", sum := "46a1de248687f5a8846255bce7395ac5795a330c9db3c9cf70a9fb0e45c659c1", func := "stickful/stickfullaw08.WhiteOrder", spec := "whiteOrder", unfollowed := true, recurses := true, named := ["stickful/class.wides"], apart := false, laid := [("stickful/class.wides", laid_stickful_class_wides)], narrowed := true }
def WhiteOrderUptoSaid : Prop := whiteOrderUptoRow.holds Tryd.pinned (OpenSpec.upto whiteOrderSpec)

/-- 'stickfullaw08.WhiteAlone', WHERE WHAT IT READS IS OF BULK AT MOST 1048576: true; the input reads as it did. -/
def whiteAloneUptoRow : OpenClaim := { program := "ytejcfhfmdijimaadoor", sum := "46a1de248687f5a8846255bce7395ac5795a330c9db3c9cf70a9fb0e45c659c1", func := "stickful/stickfullaw08.WhiteAlone", spec := "whiteAlone", unfollowed := true, recurses := true, named := ["stickful/class.wides"], apart := false, laid := [("stickful/class.wides", laid_stickful_class_wides)], narrowed := true }
def WhiteAloneUptoSaid : Prop := whiteAloneUptoRow.holds Tryd.pinned (OpenSpec.upto whiteAloneSpec)

/-- 'stickfullaw08.WhiteAgain', WHERE WHAT IT READS IS OF BULK AT MOST 1048576: true; the input reads as it did. -/
def whiteAgainUptoRow : OpenClaim := { program := "ytejcfhfmdijimaadoor", sum := "46a1de248687f5a8846255bce7395ac5795a330c9db3c9cf70a9fb0e45c659c1", func := "stickful/stickfullaw08.WhiteAgain", spec := "whiteAgain", unfollowed := true, recurses := true, named := ["stickful/class.wides"], apart := false, laid := [("stickful/class.wides", laid_stickful_class_wides)], narrowed := true }
def WhiteAgainUptoSaid : Prop := whiteAgainUptoRow.holds Tryd.pinned (OpenSpec.upto whiteAgainSpec)

/-- 'stickfullaw08.WhiteParts', WHERE WHAT IT READS IS OF BULK AT MOST 1048576: true; the input reads as it did. -/
def whitePartsUptoRow : OpenClaim := { program := "ytejcfhfmdijimaadoor", sum := "46a1de248687f5a8846255bce7395ac5795a330c9db3c9cf70a9fb0e45c659c1", func := "stickful/stickfullaw08.WhiteParts", spec := "whiteParts", unfollowed := true, recurses := true, named := ["stickful/class.wides"], apart := false, laid := [("stickful/class.wides", laid_stickful_class_wides)], narrowed := true }
def WhitePartsUptoSaid : Prop := whitePartsUptoRow.holds Tryd.pinned (OpenSpec.upto whitePartsSpec)

end Rows
end Go.Proofs.YtejcfhfmdijimaaDoor
