/-
  No cell of these rows narrows 'for every input' (looked for: loops, veiled, ifaces, maps, wideKeys, modest, calm, conditions, laid).
  DERIVED. THE GIVEN ROWS OF THIS SEAT. 4 by the template 'for every input the law returns true; each argument reads behind the call as it read before'; 0 by the template 'total and deterministic' (their statements: YtpaaicbgehpdiaaTotals.lean).
  GIVEN WITH THE SEED: the statements are not yours to turn. If you find one false, say at which input.
  Laid BY PROGRAM, IN A SANDBOX (cutbox-rows.mjs): the forced cells as the released guide's own fill.sh prints them over the translation 41f6c56b136aeacf… (all of the seat's roots in one cut). By AI agents, Wed Nov 11 2026. No macro, syntax, notation, axiom, sorry.
-/
import Derived.Test.YtpaaicbgehpdiaaChecked
import GoSem.Claim
import GoSem.ClaimJoined
import GoSem.ClaimMapViews
import Derived.JoinedTies
import Derived.KernelRfl
namespace Go.Proofs.Ytpaaicbgehpdiaa
/- THE CELL 'sum', in the pinned program and in every row, IS THE sha256 OF THE DUMP (.gsa) THAT YtpaaicbgehpdiaaProg.lean LOADS. Nothing in Lean hashes anything: it is a label: what it is worth is what the hold of that sum in a sandbox is worth. -/
noncomputable def Try.pinned : Pinned := { name := "ytpaaicbgehpdiaa", sum := "41f6c56b136aeacf8624fb9eba6cd5ff122e1e87fbbd31e7e183b729f3610797", checked := Try.checked }
namespace Rows
def none {H : Type} : Left H := { results := [], args := [] }

/-- 'stickfullaw12.TabsParts': WHATEVER THE INPUT: true; the input reads as it did. -/
def tabsPartsSpec : ChangeSpec := { name := "tabsParts", fn := fun _ => fun
  | [d1, d2, d3] => { results := [.lit (.bool true)], args := [d1, d2, d3] }
  | _ => none }
def tabsPartsRow : OpenClaim := { program := "ytpaaicbgehpdiaa", sum := "41f6c56b136aeacf8624fb9eba6cd5ff122e1e87fbbd31e7e183b729f3610797", func := "stickful/stickfullaw12.TabsParts", spec := "tabsParts", inPlace := ["math/bits.Add64"], unfollowed := true, recurses := true, apart := false }
def TabsPartsSaid : Prop := tabsPartsRow.holds Try.pinned (OpenSpec.ofChange tabsPartsSpec)

/-- ITS FALSE NEIGHBOUR: 'it returns false'. Refute it at one input. -/
def tabsPartsWrong : ChangeSpec := { name := "tabsParts", fn := fun _ => fun
  | [d1, d2, d3] => { results := [.lit (.bool false)], args := [d1, d2, d3] }
  | _ => none }
def TabsPartsWrongFalsely : Prop := tabsPartsRow.holds Try.pinned (OpenSpec.ofChange tabsPartsWrong)

/-- 'stickfullaw12.TabsStops': WHATEVER THE INPUT: true; the input reads as it did. -/
def tabsStopsSpec : ChangeSpec := { name := "tabsStops", fn := fun _ => fun
  | [d1, d2, d3] => { results := [.lit (.bool true)], args := [d1, d2, d3] }
  | _ => none }
def tabsStopsRow : OpenClaim := { program := "ytpaaicbgehpdiaa", sum := "41f6c56b136aeacf8624fb9eba6cd5ff122e1e87fbbd31e7e183b729f3610797", func := "stickful/stickfullaw12.TabsStops", spec := "tabsStops", inPlace := ["math/bits.Add64"], unfollowed := true, recurses := true, apart := false }
def TabsStopsSaid : Prop := tabsStopsRow.holds Try.pinned (OpenSpec.ofChange tabsStopsSpec)

/-- ITS FALSE NEIGHBOUR: 'it returns false'. Refute it at one input. -/
def tabsStopsWrong : ChangeSpec := { name := "tabsStops", fn := fun _ => fun
  | [d1, d2, d3] => { results := [.lit (.bool false)], args := [d1, d2, d3] }
  | _ => none }
def TabsStopsWrongFalsely : Prop := tabsStopsRow.holds Try.pinned (OpenSpec.ofChange tabsStopsWrong)

/-- 'stickfullaw12.TabsGone': WHATEVER THE INPUT: true; the input reads as it did. -/
def tabsGoneSpec : ChangeSpec := { name := "tabsGone", fn := fun _ => fun
  | [d1, d2, d3] => { results := [.lit (.bool true)], args := [d1, d2, d3] }
  | _ => none }
def tabsGoneRow : OpenClaim := { program := "ytpaaicbgehpdiaa", sum := "41f6c56b136aeacf8624fb9eba6cd5ff122e1e87fbbd31e7e183b729f3610797", func := "stickful/stickfullaw12.TabsGone", spec := "tabsGone", inPlace := ["math/bits.Add64"], unfollowed := true, recurses := true, apart := false }
def TabsGoneSaid : Prop := tabsGoneRow.holds Try.pinned (OpenSpec.ofChange tabsGoneSpec)

/-- ITS FALSE NEIGHBOUR: 'it returns false'. Refute it at one input. -/
def tabsGoneWrong : ChangeSpec := { name := "tabsGone", fn := fun _ => fun
  | [d1, d2, d3] => { results := [.lit (.bool false)], args := [d1, d2, d3] }
  | _ => none }
def TabsGoneWrongFalsely : Prop := tabsGoneRow.holds Try.pinned (OpenSpec.ofChange tabsGoneWrong)

/-- 'stickfullaw12.TabsRise': WHATEVER THE INPUT: true; the input reads as it did. -/
def tabsRiseSpec : ChangeSpec := { name := "tabsRise", fn := fun _ => fun
  | [d1, d2, d3] => { results := [.lit (.bool true)], args := [d1, d2, d3] }
  | _ => none }
def tabsRiseRow : OpenClaim := { program := "ytpaaicbgehpdiaa", sum := "41f6c56b136aeacf8624fb9eba6cd5ff122e1e87fbbd31e7e183b729f3610797", func := "stickful/stickfullaw12.TabsRise", spec := "tabsRise", inPlace := ["math/bits.Add64"], unfollowed := true, recurses := true, apart := false }
def TabsRiseSaid : Prop := tabsRiseRow.holds Try.pinned (OpenSpec.ofChange tabsRiseSpec)

/-- ITS FALSE NEIGHBOUR: 'it returns false'. Refute it at one input. -/
def tabsRiseWrong : ChangeSpec := { name := "tabsRise", fn := fun _ => fun
  | [d1, d2, d3] => { results := [.lit (.bool false)], args := [d1, d2, d3] }
  | _ => none }
def TabsRiseWrongFalsely : Prop := tabsRiseRow.holds Try.pinned (OpenSpec.ofChange tabsRiseWrong)

/- THE SECOND FORM. 'bulk': how many values and letters a reading holds, each counted each time it is reached (what is shared counts as often as it is met; a slice's spare places count too). A statement '..UptoSaid' is the law's where the arguments, and the package variables that the reading takes, are together of bulk at most 1048576: NARROWER than '..Said'. Prove '..Said' where nothing that the law and all that it calls make is longer than what came in: it says more and counts as full. Else prove '..UptoSaid'. A law counts once. -/
mutual
def uptoBulk {H : Type} : DataW H → Nat
  | .lit (.string bytes) => bytes.length + 1
  | .lit _ => 1
  | .nil => 1
  | .ptr d => uptoBulk d + 1
  | .slice elems spare => uptoBulkAll elems + uptoBulkAll spare + 1
  | .agg parts => uptoBulkAll parts + 1
  | .iface _ d => uptoBulk d + 1
  | .map entries => uptoBulkEntries entries + 1
  | .held _ => 1
def uptoBulkAll {H : Type} : List (DataW H) → Nat
  | [] => 0
  | d :: r => uptoBulk d + uptoBulkAll r
def uptoBulkEntries {H : Type} : List (Lit × DataW H) → Nat
  | [] => 0
  | x :: r => uptoBulkEntry x + uptoBulkEntries r
def uptoBulkEntry {H : Type} : Lit × DataW H → Nat
  | (.string bytes, d) => bytes.length + uptoBulk d + 1
  | (_, d) => uptoBulk d + 1
 end
def uptoSmall : (H : Type) → List (DataW H) → Bool := fun _ ds => decide (uptoBulkAll ds ≤ 1048576)
def OpenSpec.upto (s : _root_.Go.ChangeSpec) : _root_.Go.OpenSpec := { _root_.Go.OpenSpec.ofChange s with cond := some uptoSmall }

/-- 'stickfullaw12.TabsParts', WHERE WHAT IT READS IS OF BULK AT MOST 1048576: true; the input reads as it did. -/
def tabsPartsUptoRow : OpenClaim := { program := "ytpaaicbgehpdiaa", sum := "41f6c56b136aeacf8624fb9eba6cd5ff122e1e87fbbd31e7e183b729f3610797", func := "stickful/stickfullaw12.TabsParts", spec := "tabsParts", inPlace := ["math/bits.Add64"], unfollowed := true, recurses := true, apart := false, narrowed := true }
def TabsPartsUptoSaid : Prop := tabsPartsUptoRow.holds Try.pinned (OpenSpec.upto tabsPartsSpec)

/-- 'stickfullaw12.TabsStops', WHERE WHAT IT READS IS OF BULK AT MOST 1048576: true; the input reads as it did. -/
def tabsStopsUptoRow : OpenClaim := { program := "ytpaaicbgehpdiaa", sum := "41f6c56b136aeacf8624fb9eba6cd5ff122e1e87fbbd31e7e183b729f3610797", func := "stickful/stickfullaw12.TabsStops", spec := "tabsStops", inPlace := ["math/bits.Add64"], unfollowed := true, recurses := true, apart := false, narrowed := true }
def TabsStopsUptoSaid : Prop := tabsStopsUptoRow.holds Try.pinned (OpenSpec.upto tabsStopsSpec)

/-- 'stickfullaw12.TabsGone', WHERE WHAT IT READS IS OF BULK AT MOST 1048576: true; the input reads as it did. -/
def tabsGoneUptoRow : OpenClaim := { program := "ytpaaicbgehpdiaa", sum := "41f6c56b136aeacf8624fb9eba6cd5ff122e1e87fbbd31e7e183b729f3610797", func := "stickful/stickfullaw12.TabsGone", spec := "tabsGone", inPlace := ["math/bits.Add64"], unfollowed := true, recurses := true, apart := false, narrowed := true }
def TabsGoneUptoSaid : Prop := tabsGoneUptoRow.holds Try.pinned (OpenSpec.upto tabsGoneSpec)

/-- 'stickfullaw12.TabsRise', WHERE WHAT IT READS IS OF BULK AT MOST 1048576: true; the input reads as it did. -/
def tabsRiseUptoRow : OpenClaim := { program := "ytpaaicbgehpdiaa", sum := "41f6c56b136aeacf8624fb9eba6cd5ff122e1e87fbbd31e7e183b729f3610797", func := "stickful/stickfullaw12.TabsRise", spec := "tabsRise", inPlace := ["math/bits.Add64"], unfollowed := true, recurses := true, apart := false, narrowed := true }
def TabsRiseUptoSaid : Prop := tabsRiseUptoRow.holds Try.pinned (OpenSpec.upto tabsRiseSpec)

end Rows
end Go.Proofs.Ytpaaicbgehpdiaa
