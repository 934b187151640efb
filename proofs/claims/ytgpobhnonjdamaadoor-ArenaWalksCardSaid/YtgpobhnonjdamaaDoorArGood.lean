/- What New lets by, as the laws want it. No walk. -/
import Derived.Test.YtgpobhnonjdamaaDoorArHead
import Derived.Test.YtgpobhnonjdamaaDoorArGreat
namespace Go.Proofs.YtgpobhnonjdamaaDoor
open Go.ChangeShapes Go.WideShapes Go.ChangeAt Go.RowKit

theorem Good.k8 {l : List Nod} (h : Good l) (hW : WfL l) : ∀ (i : Nat) (x : Nod), l[i]? = some x → 0 ≤ x.k ∧ x.k ≤ 8 := fun i x hx => ⟨(hW i x hx).k0, (h.pre.all i x hx).kind⟩
theorem Good.root {l : List Nod} (h : Good l) : kindAt l 0 = 0 := by
  obtain ⟨x, hx⟩ := at_of h.pos
  exact (kindAt_of (i := 0) hx).trans ((h.pre.all 0 x hx).root rfl)

end Go.Proofs.YtgpobhnonjdamaaDoor
