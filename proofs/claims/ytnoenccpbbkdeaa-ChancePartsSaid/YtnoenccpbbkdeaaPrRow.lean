/- The place of pair's rules as a struct that is not looked into: loads, boxes, new variables, stores; literals of numbers. No walk. -/
import Derived.Test.YtnoenccpbbkdeaaGE
import Derived.Test.YtnoenccpbbkdeaaGI
namespace Go.Proofs.Ytnoenccpbbkdeaa
open Go.ChangeShapes Go.WideShapes Go.ChangeAt Go.RowKit

structure Mk (P : Prop) : Prop where
  out : P
structure Plc where
  a : Int
  b : Int
  o : Int
  cl : Bool
def plC (p : Plc) : Array Value := #[.int .u8 p.a, .int .u8 p.b, .int .u8 p.o, .bool p.cl]
def zPl : Plc := ⟨0, 0, 0, false⟩
theorem uP : Try.prog.underlying 100 = some (.struct (Try.prog.fieldsOf 100)) := by kernel_rfl
theorem iP (x : Plc) : (Try.prog.info? 100).map (·.size) = some (plC x).size := by kernel_rfl
theorem oneP (x : Plc) : (plC x).all (·.oneCell') = true := by kernel_rfl
theorem alP (w : World) : (Instr.alloc 100 true (.tuple #[])).run Try.prog w = .ok (.pointer (some ⟨w.heap.size, 0, none⟩)) (w.alloc (.cells (plC zPl) 100)) := by kernel_rfl
theorem bxP (x : Plc) (w : World) : (Instr.box 100 (.agg (plC x))).run Try.prog w = .ok (.pointer (some ⟨w.heap.size, 0, none⟩)) (w.alloc (.cells (plC x) 100)) := by kernel_rfl
section
variable {ops : Array Oper} {Q : Exit → Act → World → Prop} {a : Act} {w : World} {rest : List Oper} {o o1 o2 : Oper}
theorem rdP (x : Operand) (ho : o.op = .load 100 x) (p : Addr) (hx : a.eval x = .pointer (some p)) (s : Plc) (hL : Lies w p (plC s)) : (execOp a.eval o).run Try.prog w = .ok (.value (.agg (plC s))) w := run_op_load 100 x ho p hx (plC s) _ hL uP rfl (iP s)
theorem ldP (hg : o.guard = none) (x : Operand) (ho : o.op = .load 100 x) (p : Addr) (hx : a.eval x = .pointer (some p)) (s : Plc) (hL : Lies w p (plC s))
    (h : wpList Try.prog ops Q rest (a.put o.dst (.agg (plC s))) w) : wpList Try.prog ops Q (o :: rest) a w := wpList_loadL hg 100 x ho p hx (plC s) _ hL uP rfl (iP s) h
theorem ldPIf (hw : Region.wanted o (yielded ops a.tmps) = true) (x : Operand) (ho : o.op = .load 100 x) (p : Addr) (hx : a.eval x = .pointer (some p)) (s : Plc) (hL : Lies w p (plC s))
    (h : wpList Try.prog ops Q rest (a.put o.dst (.agg (plC s))) w) : wpList Try.prog ops Q (o :: rest) a w := wpList_valIf hw _ rfl _ _ (rdP x ho p hx s hL) h
theorem alPV (hg : o.guard = none) (ho : o.op = .alloc 100) (h : ∀ w', Below w.heap.size w w' → Blk w' w.heap.size 100 (plC zPl) → wpList Try.prog ops Q rest (a.put o.dst (.pointer (some ⟨w.heap.size, 0, none⟩))) w') : wpList Try.prog ops Q (o :: rest) a w :=
  wpList_newV hg 100 ho _ alP h
theorem bxPV (hg : o.guard = none) (x : Operand) (ho : o.op = .box 100 x) (s : Plc) (hx : a.eval x = .agg (plC s)) (h : ∀ w', Below w.heap.size w w' → Blk w' w.heap.size 100 (plC s) → wpList Try.prog ops Q rest (a.put o.dst (.pointer (some ⟨w.heap.size, 0, none⟩))) w') : wpList Try.prog ops Q (o :: rest) a w :=
  wpList_boxL hg 100 x ho (plC s) hx (bxP s) h
theorem stP (hg : o.guard = none) (x y : Operand) (ho : o.op = .store 100 x y) (hd : o.dst = none) (g : Nat) (hx : a.eval x = .pointer (some ⟨g, 0, none⟩)) (s : Plc) (hy : a.eval y = .agg (plC s)) {t : TypeId} (old : Plc) (hB : Blk w g t (plC old))
    (h : ∀ w', Mod (fun k => k = g) w w' → Blk w' g t (plC s) → wpList Try.prog ops Q rest a w') : wpList Try.prog ops Q (o :: rest) a w :=
  wpList_storeL hg 100 x y ho hd g hx (plC s) hy t (plC old) hB (iP s) rfl (oneP s) h
theorem nwP (hg1 : o1.guard = none) (hg2 : o2.guard = none) (D : Tmp) (hd1 : o1.dst = some D) (ho1 : o1.op = .alloc 100) (y : Operand) (ho2 : o2.op = .store 100 (.tmp D) y) (hd2 : o2.dst = none)
    (s : Plc) (hx : ∀ v, (a.put (some D) v).eval (.tmp D) = v) (hy : ∀ v, (a.put (some D) v).eval y = .agg (plC s))
    (h : ∀ w', Below w.heap.size w w' → Blk w' w.heap.size 100 (plC s) → wpList Try.prog ops Q rest (a.put (some D) (.pointer (some ⟨w.heap.size, 0, none⟩))) w') : wpList Try.prog ops Q (o1 :: o2 :: rest) a w :=
  wpList_newS hg1 hg2 100 D hd1 ho1 y ho2 hd2 _ alP (plC s) hx hy (iP s) rfl (oneP s) h
end
/-- a literal of numbers, as it is made -/
theorem r8_lit (w : World) (l : List Int) (t : TypeId) (n : Nat) (cs : Array Value) (hn : l.length = n) (hc : cs = (r8 l).toArray) : R8 (w.alloc (.cells cs t)) (.slice (some ⟨w.heap.size, 0, none⟩) n n) l := by
  subst hc hn
  have B := Blk.new w t (r8 l).toArray
  refine .inr ⟨⟨w.heap.size, 0, none⟩, l.length, by rw [r8_len], .inr ⟨B.lt, id⟩, fun j u hj => ?_⟩
  have e : (⟨w.heap.size, 0, none⟩ : Addr).add j = ⟨w.heap.size, j, none⟩ := by simp [Addr.add]; exact fun h => h.symm
  rw [e, B.cell j]
  simpa using hj
end Go.Proofs.Ytnoenccpbbkdeaa
