/- Lists of declarations and of styles in memory; contracts of style.validParents, validDecls and of slices' ContainsFunc, IndexFunc at it. Conditions: the lists lie where the slices say, at most 1000 elements; bits are 16-bit numbers. -/
import Derived.Test.YtejcfhfmdijimaaDoorY6
import Derived.Test.YtejcfhfmdijimaaDoorYRows
import Derived.Test.YtejcfhfmdijimaaDoorYLists
namespace Go.Proofs.YtejcfhfmdijimaaDoor
open Go.ChangeShapes Go.WideShapes Go.ChangeAt Go.RowKit

/-- v is a slice of declarations that reads as ds -/
def Ds (w : World) (v : Value) (ds : List Dcl) : Prop := RowN 10 (fun _ => False) w v (ds.map fun d => d.cells.toList)
/-- v is a slice of styles that reads as l -/
def Ss (w : World) (v : Value) (l : List Sty) : Prop := RowN 9 (fun _ => False) w v (l.map fun s => s.cells.toList)
theorem Ds.below {w w' : World} {v : Value} {ds : List Dcl} (h : Ds w v ds) (b : Below w.heap.size w w') : Ds w' v ds := RowN.below h b
theorem Ss.below {w w' : World} {v : Value} {l : List Sty} (h : Ss w v l) (b : Below w.heap.size w w') : Ss w' v l := RowN.below h b
theorem Ds.form {w : World} {v : Value} {ds : List Dcl} (h : Ds w v ds) : ∃ A c, v = .slice A ds.length c := by
  have := RowN.form h
  rwa [List.length_map] at this
theorem Ss.form {w : World} {v : Value} {l : List Sty} (h : Ss w v l) : ∃ A c, v = .slice A l.length c := by
  have := RowN.form h
  rwa [List.length_map] at this
theorem lies_of {w : World} {p : Addr} {cs : Array Value} {g o : Nat} (hp : p = ⟨g, o, none⟩) (h : ∀ j u, cs.toList[j]? = some u → w.cell? ⟨g, o + j, none⟩ = some u) : Lies w p cs := by
  subst hp
  intro j v hv
  have : (⟨g, o, none⟩ : Addr).add j = ⟨g, o + j, none⟩ := by unfold Addr.add; split <;> simp_all
  rw [this]
  exact h j v (by simpa using hv)
theorem Ds.get {w wx : World} {v : Value} {ds : List Dcl} (h : Ds w v ds) (b : Below w.heap.size w wx) {i : Nat} {d : Dcl} (hi : ds[i]? = some d) :
    ∃ a cap o, v = .slice (some a) ds.length cap ∧ a.block < w.heap.size ∧ a.add (i * 10) = ⟨a.block, o, none⟩ ∧ Lies wx ⟨a.block, o, none⟩ d.cells := by
  obtain ⟨a, cap, o, hv, hb, _, ha, hc⟩ := RowN.get h b (x := d.cells.toList) (by rw [List.getElem?_map, hi]; rfl) (by simp [Dcl.cells])
  rw [List.length_map] at hv
  exact ⟨a, cap, o, hv, hb, ha, lies_of rfl hc⟩
theorem Ss.get {w wx : World} {v : Value} {l : List Sty} (h : Ss w v l) (b : Below w.heap.size w wx) {i : Nat} {s : Sty} (hi : l[i]? = some s) :
    ∃ a cap o, v = .slice (some a) l.length cap ∧ a.block < w.heap.size ∧ a.add (i * 9) = ⟨a.block, o, none⟩ ∧ Lies wx ⟨a.block, o, none⟩ s.cells := by
  obtain ⟨a, cap, o, hv, hb, _, ha, hc⟩ := RowN.get h b (x := s.cells.toList) (by rw [List.getElem?_map, hi]; rfl) (by simp [Sty.cells])
  rw [List.length_map] at hv
  exact ⟨a, cap, o, hv, hb, ha, lies_of rfl hc⟩
/-- a declaration's style, and its bits, at a plain address -/
theorem Lies.sub {w : World} {g o : Nat} {d : Dcl} (h : Lies w ⟨g, o, none⟩ d.cells) : Lies w ⟨g, o + 1, none⟩ d.s.cells := fun j v hv => by
  have hj : j < 9 := (Array.getElem?_eq_some_iff.1 hv).1
  have h2 := h (1 + j) v (by
    match j, hj with
    | 0, _ => exact hv
    | 1, _ => exact hv
    | 2, _ => exact hv
    | 3, _ => exact hv
    | 4, _ => exact hv
    | 5, _ => exact hv
    | 6, _ => exact hv
    | 7, _ => exact hv
    | 8, _ => exact hv)
  have e1 : (⟨g, o + 1, none⟩ : Addr).add j = ⟨g, o + 1 + j, none⟩ := by unfold Addr.add; split <;> simp_all
  have e2 : (⟨g, o, none⟩ : Addr).add (1 + j) = ⟨g, o + (1 + j), none⟩ := by unfold Addr.add; split <;> simp_all
  rw [e2] at h2
  rw [e1, Nat.add_assoc]
  exact h2
theorem Lies.bits {w : World} {g o : Nat} {d : Dcl} (h : Lies w ⟨g, o, none⟩ d.cells) : w.cell? ⟨g, o, none⟩ = some (.int .u16 d.n) := h 0 _ rfl

/-- all bits are 16-bit numbers -/
def Wf16 (ds : List Dcl) : Prop := ∀ i, i < ds.length → (ds.getD i .zero).n < 65536
theorem getD_of {α : Type} {l : List α} {i : Nat} (z : α) (h : i < l.length) : l[i]? = some (l.getD i z) := by
  rw [List.getD_eq_getElem?_getD, List.getElem?_eq_getElem h]
  rfl

/-- what IndexFunc says: the first that may not be, or -1 -/
def IdxOf (ds : List Dcl) (z : Int) : Prop := (z = -1 ∧ okD ds) ∨ (0 ≤ z ∧ ¬ okD ds)
theorem IdxOf.none_ {ds : List Dcl} (h : okD ds) : IdxOf ds (-1) := .inl ⟨rfl, h⟩
theorem IdxOf.some_ {ds : List Dcl} {k : Nat} (hk : k < ds.length) (h : vldD (ds.getD k .zero) = false) : IdxOf ds k := .inr ⟨by omega, fun h2 => by rw [h2 k hk] at h; cases h⟩
/-- an answer in the world behind it -/
def Idx (w : World) (ds : List Dcl) (e : Ending) (w' : World) : Prop := ∃ z : Int, e = .returned (.int .i64 z) ∧ IdxOf ds z ∧ Below w.heap.size w w'

end Go.Proofs.YtejcfhfmdijimaaDoor
