/- 'out = append(out, x)' onto a row of the call's own, for an element of any kind of cells; outside and inside a round. For any layer. No walk. -/
import Derived.Test.YtejcfhfmdijimaaDoorYApp
import Derived.Maps.AppendAt
import Derived.OwnWalkIn
namespace Go.Proofs.YtejcfhfmdijimaaDoor
open Go.ChangeShapes Go.WideShapes Go.ChangeAt Go.RowKit

/-- how an element's type is laid -/
structure Elm (P : Program) (T E : TypeId) (size bytes : Nat) : Prop where
  und : P.underlying T = some (.slice E)
  info : ∃ z : Value, ((P.info? E).map (fun i => (i.zero, i.size, i.bytes)) = some (some z, size, bytes)) ∧ z.cells.size = size
  pos : 0 < size
  small : bytes ≤ 1024

theorem apG {P : Program} {T E : TypeId} {size bytes : Nat} (hE : Elm P T E size bytes) {ops : Array Oper} {Q : Exit → Act → World → Prop} {a : Act} {w : World} {rest : List Oper} {o1 o2 : Oper} (hg1 : o1.guard = none) (x : Operand) (ho1 : o1.op = .buildSlice T 1 #[(0, x)]) (D : Tmp) (hd1 : o1.dst = some D)
    (hg2 : o2.guard = none) (sl : Operand) (ho2 : o2.op = .call { callee := .builtin .append, args := #[sl, .tmp D], argTypes := #[T, T] }) (val : Value) (cs : Array Value) (hx : a.eval x = val) (hcs : cs.size = size) (h1 : cs.all (·.oneCell') = true)
    (hbs : ∀ w, (Instr.buildSlice T 1 #[(0, val)]).run P w = .ok (.slice (some ⟨w.heap.size, 0, none⟩) 1 1) (w.alloc (.cells cs E)))
    (v : Value) (hs : ∀ u, (a.put (some D) u).eval sl = v) (hD : ∀ u, (a.put (some D) u).eval (.tmp D) = u) (base n : Nat) (xs : List Value) (hown : w.ownsRow base E size v n xs) (hn : n < 4194304) (hbase : base ≤ w.heap.size)
    (h : ∀ u v' w', w'.ownsRow base E size v' (n + 1) (xs ++ cs.toList) → Below base w w' → wpList P ops Q rest ((a.put (some D) u).put o2.dst v') w') : wpList P ops Q (o1 :: o2 :: rest) a w := by
  obtain ⟨z, hi0, hzc⟩ := hE.info
  obtain ⟨i0, hi, hz0, hz1, hz2⟩ := info_agg hi0
  have hsm := hE.small
  refine wpList_valIf (wanted_none hg1 _) _ hd1 (.slice (some ⟨w.heap.size, 0, none⟩) 1 1) (w.alloc (.cells cs E)) ?_ ?_
  · unfold execOp
    simp only [ho1, List.map_toArray, List.map_cons, List.map_nil, hx, Sem.run_bind, hbs, Sem.run_pure, Result.andThen_ok]
  · have B0 := Blk.new w E cs
    refine wpList_append_own _ hg2 sl (.tmp D) T ho2 base E i0 z size bytes hE.und hi hz0 hz1 hz2 hzc hE.pos v n xs (hs _) (hown.alloc _) ⟨w.heap.size, 0, none⟩ 1 1 cs.toList (hD _) (by rw [Array.length_toList, hcs, Nat.one_mul]) (fun j u hu => B0.lies j u (by simpa using hu)) (fun u hu => (Array.all_eq_true_iff_forall_mem.1 h1) u (by simpa using hu)) (by unfold maxLen; omega) (Nat.le_trans (Nat.mul_le_mul (show n + 1 ≤ 4194304 by omega) hsm) (by omega)) (by simp; omega) ?_
    intro v' w' h1 h2 h3
    refine h _ v' w' h1 (((below_alloc w _).mono hbase).trans (below_grown h2 (by simp; omega) (fun g hg => ?_)))
    rcases hown.2 with ⟨rfl, _⟩ | ⟨g', cap, cur, rfl, hb, _⟩
    · simp [Value.ownBlock] at hg
    · have e : g' = g := by simpa [Value.ownBlock] using hg
      omega

/-! ### ints -/
theorem elmI : Elm Tryd.prog 81 3 1 8 := ⟨Tryd.underlying81, ⟨.int .i64 0, by kernel_rfl, rfl⟩, by decide, by decide⟩
theorem bsI (z : Int) (w : World) : (Instr.buildSlice 81 1 #[(0, .int .i64 z)]).run Tryd.prog w = .ok (.slice (some ⟨w.heap.size, 0, none⟩) 1 1) (w.alloc (.cells #[.int .i64 z] 3)) := by kernel_rfl
theorem apI {ops : Array Oper} {Q : Exit → Act → World → Prop} {a : Act} {w : World} {rest : List Oper} {o1 o2 : Oper} (hg1 : o1.guard = none) (x : Operand) (ho1 : o1.op = .buildSlice 81 1 #[(0, x)]) (D : Tmp) (hd1 : o1.dst = some D)
    (hg2 : o2.guard = none) (sl : Operand) (ho2 : o2.op = .call { callee := .builtin .append, args := #[sl, .tmp D], argTypes := #[81, 81] }) (z : Int) (hx : a.eval x = .int .i64 z)
    (v : Value) (hs : ∀ u, (a.put (some D) u).eval sl = v) (hD : ∀ u, (a.put (some D) u).eval (.tmp D) = u) (base n : Nat) (xs : List Value) (hown : w.ownsRow base 3 1 v n xs) (hn : n < 4194304) (hbase : base ≤ w.heap.size)
    (h : ∀ u v' w', w'.ownsRow base 3 1 v' (n + 1) (xs ++ [.int .i64 z]) → Below base w w' → wpList Tryd.prog ops Q rest ((a.put (some D) u).put o2.dst v') w') : wpList Tryd.prog ops Q (o1 :: o2 :: rest) a w :=
  apG elmI hg1 x ho1 D hd1 hg2 sl ho2 (.int .i64 z) #[.int .i64 z] hx rfl (by simp [Value.oneCell']) (bsI z) v hs hD base n xs hown hn hbase h
end Go.Proofs.YtejcfhfmdijimaaDoor
