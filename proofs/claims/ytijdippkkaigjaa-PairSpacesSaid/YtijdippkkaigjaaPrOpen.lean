/- Arguments of pair's laws: numbers of eight bits, and slices of them. No walk. -/
import Derived.Test.YtijdippkkaigjaaOpen
import Derived.Test.YtijdippkkaigjaaRowN
import Derived.Test.YtijdippkkaigjaaPr14
namespace Go.Proofs.Ytijdippkkaigjaa
open Go.ChangeShapes Go.WideShapes Go.ChangeAt Go.RowKit

theorem own : ownKnob Try.prog.godebug = none := by kernel_rfl
theorem laidOut : laidOutB Try.prog = true := by kernel_rfl
theorem wf8_of {a : Int} (h : (Lit.int .u8 a).wf = true) : ∃ M : Nat, a = (M : Int) ∧ M < 256 := by
  have h1 : 0 ≤ a ∧ a ≤ 255 := by simpa [Lit.wf, IntKind.min, IntKind.max, IntKind.signed, IntKind.bits] using h
  exact ⟨a.toNat, by omega, by omega⟩
theorem wf8_all {zs : List Int} (h : ∀ z ∈ zs, (Lit.int .u8 z).wf = true) : ∀ z ∈ zs, 0 ≤ z := fun z hz => by
  obtain ⟨M, h1, _⟩ := wf8_of (h z hz)
  omega
theorem r8_of {S : Nat → Prop} {w : World} {v : Value} {zs : List Int} (h : Row S w v (zs.map (Value.int .u8))) : R8 w v zs := h.mono fun _ _ h => h.elim
end Go.Proofs.Ytijdippkkaigjaa
