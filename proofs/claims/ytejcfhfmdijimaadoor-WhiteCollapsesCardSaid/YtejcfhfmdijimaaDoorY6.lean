/- Contracts of style.CheckDecl, Resolve, Merge. Condition: a declaration's bits are a 16-bit number. -/
import Derived.Test.YtejcfhfmdijimaaDoorY5
namespace Go.Proofs.YtejcfhfmdijimaaDoor
open Go.ChangeShapes Go.WideShapes Go.ChangeAt Go.RowKit

/-- as res_row_tmp, the second value named -/
theorem res_row_val {P : Program} {fn : Func} {p u : Tmp} {ty : TypeId} (h : fn.results = #[.cell p ty, .tmp u]) (tmps : Array Value) (w : World) (g : Nat) (t : TypeId) (cs : Array Value) (d : TypeDesc)
    (hp : tmps.getD p undef = .pointer (some ⟨g, 0, none⟩)) (hB : Blk w g t cs) (v : Value) (hv : tmps.getD u undef = v)
    (hu : P.underlying ty = some d) (hd : (match d with | .struct _ | .array _ _ => true | _ => false) = true) (hi : (P.info? ty).map (·.size) = some cs.size) :
    (results fn tmps).run P w = .ok (.tuple #[.agg cs, v]) w := by
  subst hv
  exact res_row_tmp h tmps w g t cs d hp hB hu hd hi

theorem chkD_is (d : Dcl) (h1 : d.n ≤ 255) (h2 : over .zero d = d.s) : chkD d = chk (over .zero d) := by
  unfold chkD vldD chk
  rw [decide_eq_true h1, decide_eq_true h2, h2]
  rfl
theorem chkD_eq (d : Dcl) (h2 : ¬ over .zero d = d.s) : chkD d = 60 := by
  unfold chkD vldD
  rw [decide_eq_false h2]
  simp
theorem chkD_high (d : Dcl) (h1 : ¬ d.n ≤ 255) : chkD d = 60 := by
  unfold chkD vldD
  rw [decide_eq_false h1]
  simp

end Go.Proofs.YtejcfhfmdijimaaDoor
