/- Rows made in a call. For any layer. No walk. -/
import Derived.Test.YtddihpiheopleaaBase
import Derived.Laws.MakeOwn
namespace Go.Proofs.Ytddihpiheopleaa
open Go.ChangeShapes Go.WideShapes Go.ChangeAt Go.RowKit

structure Mk (P : Prop) : Prop where
  out : P
/-! ### rows -/
def rowV (n : Nat) (f : Nat → Value) : Array Value := ((List.range n).map f).toArray
def updV (f : Nat → Value) (i : Nat) (v : Value) : Nat → Value := fun j => if j = i then v else f j
theorem rowV_size (n : Nat) (f : Nat → Value) : (rowV n f).size = n := by simp [rowV]
theorem rowV_get {n : Nat} {f : Nat → Value} {i : Nat} (h : i < n) : (rowV n f)[i]? = some (f i) := by
  simp [rowV, h]
theorem rowV_set (n : Nat) (f : Nat → Value) (i : Nat) (v : Value) : (rowV n f).setIfInBounds i v = rowV n (updV f i v) := by
  apply Array.ext_getElem?
  intro j
  rw [Array.getElem?_setIfInBounds]
  by_cases hj : j < n
  · rw [rowV_get hj, rowV_size, rowV_get hj]
    unfold updV
    by_cases e : i = j
    · subst e
      rw [if_pos rfl, if_pos hj, if_pos rfl]
    · rw [if_neg e, if_neg (fun h => e h.symm)]
  · have e1 : (rowV n f)[j]? = none := by rw [Array.getElem?_eq_none_iff, rowV_size]; omega
    have e2 : (rowV n (updV f i v))[j]? = none := by rw [Array.getElem?_eq_none_iff, rowV_size]; omega
    rw [e1, e2, rowV_size]
    split
    · rw [if_neg (by omega)]
    · rfl
theorem rowV_zero {z : Value} (hz : z.cells = #[z]) (n : Nat) : madeCells z.cells n = rowV n (fun _ => z) := by
  apply Array.ext_getElem?
  intro j
  by_cases hj : j < n
  · rw [rowV_get hj, hz]
    simp [madeCells, hj, Nat.mod_one]
  · rw [Array.getElem?_eq_none_iff.2 (by rw [size_madeCells]; omega), Array.getElem?_eq_none_iff.2 (by rw [rowV_size]; omega)]
theorem make_one {P : Program} (t e : TypeId) (z : Value) (b : Nat) (ht : P.underlying t = some (.slice e)) (hi : (P.info? e).map (fun i => (i.zero, i.size, i.bytes)) = some (some z, 1, b)) (hb : b ≤ 1000) (hz : z.cells = #[z]) (n : Nat) (hn : n ≤ 1048576) (W : World) :
    (Instr.makeSlice t (.int .i64 (n : Int)) (.int .i64 (n : Int))).run P W = .ok (.slice (some ⟨W.heap.size, 0, none⟩) n n) (W.alloc (.cells (rowV n (fun _ => z)) e)) := by
  cases hq : P.info? e with
  | none => rw [hq] at hi; cases hi
  | some i =>
    rw [hq] at hi
    injection hi with hi
    injection hi with h1 h2
    injection h2 with h2 h3
    have hbn : i.bytes * n ≤ 1000 * 1048576 := Nat.mul_le_mul (by omega) hn
    have h := run_make (P := P) W t e i z ht hq h1 .i64 .i64 (n : Int) (n : Int) (by omega) (by omega) (by omega) (by omega)
    rw [h2] at h
    simp only [Nat.mul_one, Int.toNat_natCast, rowV_zero hz] at h
    exact h
/-- a row made with no elements yet, and room for n -/
theorem make_cap {P : Program} (t e : TypeId) (z : Value) (b : Nat) (ht : P.underlying t = some (.slice e)) (hi : (P.info? e).map (fun i => (i.zero, i.size, i.bytes)) = some (some z, 1, b)) (hb : b ≤ 1000) (hz : z.cells = #[z]) (n : Nat) (hn : n ≤ 1048577) (W : World) :
    (Instr.makeSlice t (.int .i64 0) (.int .i64 (n : Int))).run P W = .ok (.slice (some ⟨W.heap.size, 0, none⟩) 0 n) (W.alloc (.cells (rowV n (fun _ => z)) e)) := by
  cases hq : P.info? e with
  | none => rw [hq] at hi; cases hi
  | some i =>
    rw [hq] at hi
    injection hi with hi
    injection hi with h1 h2
    injection h2 with h2 h3
    have hbn : i.bytes * n ≤ 1000 * 1048577 := Nat.mul_le_mul (by omega) hn
    have h := run_make (P := P) W t e i z ht hq h1 .i64 .i64 0 (n : Int) (by omega) (by omega) (by omega) (by omega)
    rw [h2] at h
    simp only [Nat.mul_one, Int.toNat_natCast, rowV_zero hz, Int.toNat_zero] at h
    exact h
theorem own_made {W : World} {g base n : Nat} {e : TypeId} {f : Nat → Value} (hB : Blk W g e (rowV n f)) (hb : base ≤ g) (hn : n ≤ 1048577) : W.ownsRow base e 1 (.slice (some ⟨g, 0, none⟩) 0 n) 0 [] :=
  ⟨rfl, .inr ⟨g, n, _, rfl, hb, hB, Nat.zero_le _, by unfold maxLen; omega, by rw [rowV_size, Nat.mul_one], by simp⟩⟩
end Go.Proofs.Ytddihpiheopleaa
