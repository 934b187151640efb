/- Loads, boxes, new variables and stores of styles and declarations as arms of a walk; contracts of the 24 functions of style's parts, of validSize and of parts. No condition. -/
import Derived.Test.YtejcfhfmdijimaaDoorY1
namespace Go.Proofs.YtejcfhfmdijimaaDoor
open Go.ChangeShapes Go.WideShapes Go.ChangeAt Go.RowKit

theorem put_same (a : Act) (D : Tmp) (v : Value) (h : D < a.tmps.size) : (a.put (some D) v).eval (.tmp D) = v := by
  simp [Act.put, Act.eval, h]

theorem one23 (s : Sty) : s.cells.all (·.oneCell') = true := by kernel_rfl
theorem one26 (s : Dcl) : s.cells.all (·.oneCell') = true := by kernel_rfl
section
variable {ops : Array Oper} {Q : Exit → Act → World → Prop} {a : Act} {w : World} {rest : List Oper} {o o1 o2 : Oper}

theorem ldS (hg : o.guard = none) (x : Operand) (ho : o.op = .load 33 x) (p : Addr) (hx : a.eval x = .pointer (some p)) (s : Sty) (hL : Lies w p s.cells)
    (h : wpList Tryd.prog ops Q rest (a.put o.dst (.agg s.cells)) w) : wpList Tryd.prog ops Q (o :: rest) a w := wpList_loadL hg 33 x ho p hx s.cells _ hL uS rfl iS h
theorem ldSIf (hw : Region.wanted o (yielded ops a.tmps) = true) (x : Operand) (ho : o.op = .load 33 x) (p : Addr) (hx : a.eval x = .pointer (some p)) (s : Sty) (hL : Lies w p s.cells)
    (h : wpList Tryd.prog ops Q rest (a.put o.dst (.agg s.cells)) w) : wpList Tryd.prog ops Q (o :: rest) a w := wpList_valIf hw _ rfl _ _ (run_op_load 33 x ho p hx s.cells _ hL uS rfl iS) h
theorem rdS (x : Operand) (ho : o.op = .load 33 x) (p : Addr) (hx : a.eval x = .pointer (some p)) (s : Sty) (hL : Lies w p s.cells) : (execOp a.eval o).run Tryd.prog w = .ok (.value (.agg s.cells)) w := run_op_load 33 x ho p hx s.cells _ hL uS rfl iS
theorem alSV (hg : o.guard = none) (ho : o.op = .alloc 33) (h : ∀ w', Below w.heap.size w w' → Blk w' w.heap.size 33 (Sty.zero).cells → wpList Tryd.prog ops Q rest (a.put o.dst (.pointer (some ⟨w.heap.size, 0, none⟩))) w') : wpList Tryd.prog ops Q (o :: rest) a w :=
  wpList_newV hg 33 ho _ alS h
theorem bxSV (hg : o.guard = none) (x : Operand) (ho : o.op = .box 33 x) (s : Sty) (hx : a.eval x = .agg s.cells) (h : ∀ w', Below w.heap.size w w' → Blk w' w.heap.size 33 s.cells → wpList Tryd.prog ops Q rest (a.put o.dst (.pointer (some ⟨w.heap.size, 0, none⟩))) w') : wpList Tryd.prog ops Q (o :: rest) a w :=
  wpList_boxL hg 33 x ho s.cells hx (bxS s) h
theorem stS (hg : o.guard = none) (x y : Operand) (ho : o.op = .store 33 x y) (hd : o.dst = none) (g : Nat) (hx : a.eval x = .pointer (some ⟨g, 0, none⟩)) (s : Sty) (hy : a.eval y = .agg s.cells) {t : TypeId} (old : Sty) (hB : Blk w g t old.cells)
    (h : ∀ w', Mod (fun k => k = g) w w' → Blk w' g t s.cells → wpList Tryd.prog ops Q rest a w') : wpList Tryd.prog ops Q (o :: rest) a w :=
  wpList_storeL hg 33 x y ho hd g hx s.cells hy t old.cells hB iS rfl (one23 s) h
theorem nwS (hg1 : o1.guard = none) (hg2 : o2.guard = none) (D : Tmp) (hd1 : o1.dst = some D) (ho1 : o1.op = .alloc 33) (y : Operand) (ho2 : o2.op = .store 33 (.tmp D) y) (hd2 : o2.dst = none)
    (s : Sty) (hx : ∀ v, (a.put (some D) v).eval (.tmp D) = v) (hy : ∀ v, (a.put (some D) v).eval y = .agg s.cells)
    (h : ∀ w', Below w.heap.size w w' → Blk w' w.heap.size 33 s.cells → wpList Tryd.prog ops Q rest (a.put (some D) (.pointer (some ⟨w.heap.size, 0, none⟩))) w') : wpList Tryd.prog ops Q (o1 :: o2 :: rest) a w :=
  wpList_newS hg1 hg2 33 D hd1 ho1 y ho2 hd2 _ alS s.cells hx hy iS rfl (one23 s) h

end
/-- a declaration's style -/
theorem Blk.sub {w : World} {g : Nat} {t : TypeId} {d : Dcl} (h : Blk w g t d.cells) : Lies w ⟨g, 1, none⟩ d.s.cells := h.part 1 fun j v hv => by
  have hj : j < 9 := (Array.getElem?_eq_some_iff.1 hv).1
  match j, hj with
  | 0, _ => exact hv
  | 1, _ => exact hv
  | 2, _ => exact hv
  | 3, _ => exact hv
  | 4, _ => exact hv
  | 5, _ => exact hv
  | 6, _ => exact hv
  | 7, _ => exact hv
  | 8, _ => exact hv
theorem blk_cast {w : World} {g : Nat} {t : TypeId} {cs cs' : Array Value} (h : Blk w g t cs) (e : cs = cs') : Blk w g t cs' := e ▸ h

end Go.Proofs.YtejcfhfmdijimaaDoor
