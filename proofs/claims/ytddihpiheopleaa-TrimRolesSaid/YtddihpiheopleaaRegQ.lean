/- A region that draws (XRegS), walked in the order of the text: the first k are done. Its side goals are tried by themselves, so that a run of reads is one 'iterate'. For any layer. No walk. -/
import Derived.Test.YtddihpiheopleaaRegS
namespace Go.Proofs.Ytddihpiheopleaa
open Go.ChangeShapes Go.WideShapes Go.ChangeAt Go.RowKit

section
variable {P : Program} {ops : Array Oper} {md : Region.Mode} {S : World → Prop} {R : Act → Prop}
/-- the first k of n are done -/
def lst (n k : Nat) : Array Bool := (List.replicate k true ++ List.replicate (n - k) false).toArray
theorem lst_zero (n : Nat) : lst n 0 = Array.replicate n false := by simp [lst]
theorem lst_set {n k : Nat} (h : k < n) : (lst n k).setIfInBounds k true = lst n (k + 1) := by
  unfold lst
  rw [List.setIfInBounds_toArray, List.set_append_right _ _ (by simp), List.length_replicate, Nat.sub_self, show n - k = (n - (k + 1)) + 1 by omega, List.replicate_succ, List.set_cons_zero, List.replicate_succ', List.append_assoc]
  rfl
theorem AllS.start {fuel n : Nat} {a : Act} (h : AllS P md ops S R fuel (lst n 0) a) : AllS P md ops S R fuel (Array.replicate n false) a := by
  rwa [lst_zero] at h
theorem AllS.tq {n k : Nat} {oi : Oper} {v : Value} {fuel : Nat} {a : Act} (hi : ops[k]? = some oi) (hk : decide (k < n) = true)
    (hs : Region.noSelect ops = true) (hf : Region.free md ops (lst n k) k = true) (hr : (Region.ready md ops (lst n k)).contains k = true)
    (hy : KeepsIf P ops S oi v a) (h : AllS P md ops S R fuel (lst n (k + 1)) (a.put oi.dst v)) : AllS P md ops S R (fuel + 1) (lst n k) a :=
  AllS.take hi hs hf hr hy (by rwa [lst_set (of_decide_eq_true hk)])
/-- the next one, a read -/
theorem AllS.rq {n k : Nat} {oi : Oper} {v : Value} {fuel : Nat} {a : Act} (hy : ∀ w, S w → (execOp a.eval oi).run P w = .ok (.value v) w) (h : AllS P md ops S R fuel (lst n (k + 1)) (a.put oi.dst v))
    (hi : ops[k]? = some oi := by rw [List.getElem?_toArray]; rfl) (hw : Region.wanted oi (yielded ops a.tmps) = true := by rfl) (hk : decide (k < n) = true := by kernel_rfl)
    (hs : Region.noSelect ops = true := by kernel_rfl) (hf : Region.free md ops (lst n k) k = true := by kernel_rfl) (hr : (Region.ready md ops (lst n k)).contains k = true := by kernel_rfl) : AllS P md ops S R (fuel + 1) (lst n k) a :=
  AllS.tq hi hk hs hf hr (KeepsIf.read hw hy) h
/-- the next one, not wanted -/
theorem AllS.uq {n k : Nat} {oi : Oper} {fuel : Nat} {a : Act} (h : AllS P md ops S R fuel (lst n (k + 1)) (a.put oi.dst undef))
    (hi : ops[k]? = some oi := by rw [List.getElem?_toArray]; rfl) (hw : Region.wanted oi (yielded ops a.tmps) = false := by kernel_rfl) (hk : decide (k < n) = true := by kernel_rfl)
    (hs : Region.noSelect ops = true := by kernel_rfl) (hf : Region.free md ops (lst n k) k = true := by kernel_rfl) (hr : (Region.ready md ops (lst n k)).contains k = true := by kernel_rfl) : AllS P md ops S R (fuel + 1) (lst n k) a :=
  AllS.tq hi hk hs hf hr (KeepsIf.un hw) h
end
end Go.Proofs.Ytddihpiheopleaa
