/- A long literal made by a function: a run of unguarded builds is one step. No function of the program is named. -/
import Derived.Test.YtgmdechhghbmpaaDoorBase
import Derived.Great.BuildSlice
import Derived.Great.Walk
namespace Go.Proofs.YtgmdechhghbmpaaDoor
open Go.ChangeShapes Go.WideShapes Go.ChangeAt Go.RowKit

/-- unguarded builds, one after the other -/
def runBuilds (P : Program) : List Oper → Act → Option Act
  | [], a => some a
  | o :: r, a =>
    match o.guard, o.op with
    | none, .build t parts =>
      match P.built t (parts.map fun (i, x) => (i, a.eval x)).toList with
      | some cs => runBuilds P r (a.put o.dst (.agg cs))
      | none => none
    | _, _ => none

theorem wpList_runs {P : Program} {ops : Array Oper} {Q : Exit → Act → World → Prop} {w : World} : ∀ (l rest : List Oper) (a a' : Act), runBuilds P l a = some a' → wpList P ops Q rest a' w → wpList P ops Q (l ++ rest) a w
  | [], rest, a, a', h, h2 => by
    have e : a = a' := Option.some.inj h
    rw [← e] at h2
    exact h2
  | o :: r, rest, a, a', h, h2 => by
    unfold runBuilds at h
    split at h
    · rename_i t parts hg ho
      split at h
      · rename_i cs hc
        exact wpList_buildTo hg t parts ho _ rfl cs hc (wpList_runs r rest _ a' h h2)
      · cases h
    · cases h

/-- THE STEP: n builds off the list's head; what is known of the frame behind them is a closed fact (F) -/
theorem wpList_builds {P : Program} {ops : Array Oper} {Q : Exit → Act → World → Prop} {w : World} {l : List Oper} {a : Act} (n : Nat) {β : Type} (F : Act → β) (y : β)
    (hF : (runBuilds P (l.take n) a).map F = some y) (h : ∀ a', F a' = y → wpList P ops Q (l.drop n) a' w) : wpList P ops Q l a w := by
  obtain ⟨a', ha, hy⟩ := Option.map_eq_some_iff.1 hF
  rw [← List.take_append_drop n l]
  exact wpList_runs _ _ a a' ha (h a' hy)
end Go.Proofs.YtgmdechhghbmpaaDoor
