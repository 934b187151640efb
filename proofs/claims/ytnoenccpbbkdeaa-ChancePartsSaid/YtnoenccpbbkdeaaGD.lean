/- Styles and declarations as values; comparisons, loads, boxes, new variables of them; contracts of the 24 functions of style's parts. No condition. -/
import Derived.Test.YtnoenccpbbkdeaaGC
import Derived.Test.YtnoenccpbbkdeaaGB
namespace Go.Proofs.Ytnoenccpbbkdeaa
open Go.ChangeShapes Go.WideShapes Go.ChangeAt Go.RowKit

def Sty.cells (s : Sty) : Array Value := #[.int .u8 s.a0, .int .u8 s.a1, .int .u8 s.a2, .int .u8 s.a3, .int .i64 s.a4, .int .i64 s.a5, .int .i64 s.a6, .int .u8 s.a7, .int .i64 s.a8]
def Dcl.cells (d : Dcl) : Array Value := #[.int .u16 (d.n : Int), .int .u8 d.s.a0, .int .u8 d.s.a1, .int .u8 d.s.a2, .int .u8 d.s.a3, .int .i64 d.s.a4, .int .i64 d.s.a5, .int .i64 d.s.a6, .int .u8 d.s.a7, .int .i64 d.s.a8]

theorem uS : Try.prog.underlying 36 = some (.struct (Try.prog.fieldsOf 36)) := by kernel_rfl
theorem iS : (Try.prog.info? 36).map (·.size) = some 9 := by kernel_rfl
theorem alS (w : World) : (Instr.alloc 36 true (.tuple #[])).run Try.prog w = .ok (.pointer (some ⟨w.heap.size, 0, none⟩)) (w.alloc (.cells Sty.zero.cells 36)) := by kernel_rfl
theorem bxS (s : Sty) (w : World) : (Instr.box 36 (.agg s.cells)).run Try.prog w = .ok (.pointer (some ⟨w.heap.size, 0, none⟩)) (w.alloc (.cells s.cells 36)) := by kernel_rfl
/-! ### comparisons -/
theorem sty_eq (c d : Sty) : c = d ↔ c.a0 = d.a0 ∧ c.a1 = d.a1 ∧ c.a2 = d.a2 ∧ c.a3 = d.a3 ∧ c.a4 = d.a4 ∧ c.a5 = d.a5 ∧ c.a6 = d.a6 ∧ c.a7 = d.a7 ∧ c.a8 = d.a8 := by
  cases c; cases d; simp
theorem dcl_eq (c d : Dcl) : c = d ↔ c.n = d.n ∧ c.s = d.s := by
  cases c; cases d; simp
theorem dec_and (p q : Prop) [Decidable p] [Decidable q] [Decidable (p ∧ q)] : decide (p ∧ q) = (decide p && decide q) := by simp
theorem sty_dec (c d : Sty) : decide (c = d) = (decide (c.a0 = d.a0) && (decide (c.a1 = d.a1) && (decide (c.a2 = d.a2) && (decide (c.a3 = d.a3) && (decide (c.a4 = d.a4) && (decide (c.a5 = d.a5) && (decide (c.a6 = d.a6) && (decide (c.a7 = d.a7) && decide (c.a8 = d.a8))))))))) := by
  simp only [← dec_and]
  rw [decide_eq_decide]
  exact sty_eq c d
theorem dcl_dec (c d : Dcl) : decide (c = d) = (decide ((c.n : Int) = (d.n : Int)) && decide (c.s = d.s)) := by
  simp only [← dec_and]
  rw [decide_eq_decide]
  rw [Int.natCast_inj]
  exact dcl_eq c d
theorem ite_and (p : Prop) [Decidable p] (x : Bool) (w : World) : (if p then Result.ok (Value.bool x) w else Result.ok (Value.bool false) w) = Result.ok (Value.bool (decide p && x)) w := by
  by_cases h : p <;> simp [h]
theorem ite_or (p : Prop) [Decidable p] (x : Bool) (w : World) : (if p then Result.ok (Value.bool x) w else Result.ok (Value.bool true) w) = Result.ok (Value.bool (!decide p || x)) w := by
  by_cases h : p <;> simp [h]

end Go.Proofs.Ytnoenccpbbkdeaa

/- Loads, boxes, new variables and stores of styles and declarations as arms of a walk; contracts of the 24 functions of style's parts, of validSize and of parts. No condition. -/
namespace Go.Proofs.Ytnoenccpbbkdeaa
open Go.ChangeShapes Go.WideShapes Go.ChangeAt Go.RowKit

theorem put_same (a : Act) (D : Tmp) (v : Value) (h : D < a.tmps.size) : (a.put (some D) v).eval (.tmp D) = v := by
  simp [Act.put, Act.eval, h]

theorem one23 (s : Sty) : s.cells.all (·.oneCell') = true := by kernel_rfl
theorem one26 (s : Dcl) : s.cells.all (·.oneCell') = true := by kernel_rfl
section
variable {ops : Array Oper} {Q : Exit → Act → World → Prop} {a : Act} {w : World} {rest : List Oper} {o o1 o2 : Oper}

theorem ldS (hg : o.guard = none) (x : Operand) (ho : o.op = .load 36 x) (p : Addr) (hx : a.eval x = .pointer (some p)) (s : Sty) (hL : Lies w p s.cells)
    (h : wpList Try.prog ops Q rest (a.put o.dst (.agg s.cells)) w) : wpList Try.prog ops Q (o :: rest) a w := wpList_loadL hg 36 x ho p hx s.cells _ hL uS rfl iS h
theorem ldSIf (hw : Region.wanted o (yielded ops a.tmps) = true) (x : Operand) (ho : o.op = .load 36 x) (p : Addr) (hx : a.eval x = .pointer (some p)) (s : Sty) (hL : Lies w p s.cells)
    (h : wpList Try.prog ops Q rest (a.put o.dst (.agg s.cells)) w) : wpList Try.prog ops Q (o :: rest) a w := wpList_valIf hw _ rfl _ _ (run_op_load 36 x ho p hx s.cells _ hL uS rfl iS) h
theorem rdS (x : Operand) (ho : o.op = .load 36 x) (p : Addr) (hx : a.eval x = .pointer (some p)) (s : Sty) (hL : Lies w p s.cells) : (execOp a.eval o).run Try.prog w = .ok (.value (.agg s.cells)) w := run_op_load 36 x ho p hx s.cells _ hL uS rfl iS
theorem alSV (hg : o.guard = none) (ho : o.op = .alloc 36) (h : ∀ w', Below w.heap.size w w' → Blk w' w.heap.size 36 (Sty.zero).cells → wpList Try.prog ops Q rest (a.put o.dst (.pointer (some ⟨w.heap.size, 0, none⟩))) w') : wpList Try.prog ops Q (o :: rest) a w :=
  wpList_newV hg 36 ho _ alS h
theorem bxSV (hg : o.guard = none) (x : Operand) (ho : o.op = .box 36 x) (s : Sty) (hx : a.eval x = .agg s.cells) (h : ∀ w', Below w.heap.size w w' → Blk w' w.heap.size 36 s.cells → wpList Try.prog ops Q rest (a.put o.dst (.pointer (some ⟨w.heap.size, 0, none⟩))) w') : wpList Try.prog ops Q (o :: rest) a w :=
  wpList_boxL hg 36 x ho s.cells hx (bxS s) h
theorem stS (hg : o.guard = none) (x y : Operand) (ho : o.op = .store 36 x y) (hd : o.dst = none) (g : Nat) (hx : a.eval x = .pointer (some ⟨g, 0, none⟩)) (s : Sty) (hy : a.eval y = .agg s.cells) {t : TypeId} (old : Sty) (hB : Blk w g t old.cells)
    (h : ∀ w', Mod (fun k => k = g) w w' → Blk w' g t s.cells → wpList Try.prog ops Q rest a w') : wpList Try.prog ops Q (o :: rest) a w :=
  wpList_storeL hg 36 x y ho hd g hx s.cells hy t old.cells hB iS rfl (one23 s) h
theorem nwS (hg1 : o1.guard = none) (hg2 : o2.guard = none) (D : Tmp) (hd1 : o1.dst = some D) (ho1 : o1.op = .alloc 36) (y : Operand) (ho2 : o2.op = .store 36 (.tmp D) y) (hd2 : o2.dst = none)
    (s : Sty) (hx : ∀ v, (a.put (some D) v).eval (.tmp D) = v) (hy : ∀ v, (a.put (some D) v).eval y = .agg s.cells)
    (h : ∀ w', Below w.heap.size w w' → Blk w' w.heap.size 36 s.cells → wpList Try.prog ops Q rest (a.put (some D) (.pointer (some ⟨w.heap.size, 0, none⟩))) w') : wpList Try.prog ops Q (o1 :: o2 :: rest) a w :=
  wpList_newS hg1 hg2 36 D hd1 ho1 y ho2 hd2 _ alS s.cells hx hy iS rfl (one23 s) h

end
/-- a declaration's style -/
theorem Blk.sub {w : World} {g : Nat} {t : TypeId} {d : Dcl} (h : Blk w g t d.cells) : Lies w ⟨g, 1, none⟩ d.s.cells := h.part 1 fun j v hv => by
  have hj : j < 9 := (Array.getElem?_eq_some_iff.1 hv).1
  match j, hj with
  | 0, _ => exact hv
  | 1, _ => exact hv
  | 2, _ => exact hv
  | 3, _ => exact hv
  | 4, _ => exact hv
  | 5, _ => exact hv
  | 6, _ => exact hv
  | 7, _ => exact hv
  | 8, _ => exact hv
theorem blk_cast {w : World} {g : Nat} {t : TypeId} {cs cs' : Array Value} (h : Blk w g t cs) (e : cs = cs') : Blk w g t cs' := e ▸ h

end Go.Proofs.Ytnoenccpbbkdeaa

/- The row of style's parts as a value; contracts of parts, Check, First. No condition. -/
namespace Go.Proofs.Ytnoenccpbbkdeaa
open Go.ChangeShapes Go.WideShapes Go.ChangeAt Go.RowKit

def zeroPs : Array Value := #[.int .u16 0, .nilFunc, .nilFunc, .nilFunc, .int .u16 0, .nilFunc, .nilFunc, .nilFunc, .int .u16 0, .nilFunc, .nilFunc, .nilFunc, .int .u16 0, .nilFunc, .nilFunc, .nilFunc, .int .u16 0, .nilFunc, .nilFunc, .nilFunc, .int .u16 0, .nilFunc, .nilFunc, .nilFunc, .int .u16 0, .nilFunc, .nilFunc, .nilFunc, .int .u16 0, .nilFunc, .nilFunc, .nilFunc]
def zeroP : Array Value := #[.int .u16 0, .nilFunc, .nilFunc, .nilFunc]
end Go.Proofs.Ytnoenccpbbkdeaa

/- Contract of style.apply: a style with a declaration applied. Condition: the declaration's bits are a 16-bit number. -/
namespace Go.Proofs.Ytnoenccpbbkdeaa
open Go.ChangeShapes Go.WideShapes Go.ChangeAt Go.RowKit

end Go.Proofs.Ytnoenccpbbkdeaa

/- Contracts of style.CheckDecl, Resolve, Merge. Condition: a declaration's bits are a 16-bit number. -/
namespace Go.Proofs.Ytnoenccpbbkdeaa
open Go.ChangeShapes Go.WideShapes Go.ChangeAt Go.RowKit

/-- as res_row_tmp, the second value named -/
theorem res_row_val {P : Program} {fn : Func} {p u : Tmp} {ty : TypeId} (h : fn.results = #[.cell p ty, .tmp u]) (tmps : Array Value) (w : World) (g : Nat) (t : TypeId) (cs : Array Value) (d : TypeDesc)
    (hp : tmps.getD p undef = .pointer (some ⟨g, 0, none⟩)) (hB : Blk w g t cs) (v : Value) (hv : tmps.getD u undef = v)
    (hu : P.underlying ty = some d) (hd : (match d with | .struct _ | .array _ _ => true | _ => false) = true) (hi : (P.info? ty).map (·.size) = some cs.size) :
    (results fn tmps).run P w = .ok (.tuple #[.agg cs, v]) w := by
  subst hv
  exact res_row_tmp h tmps w g t cs d hp hB hu hd hi

theorem chkD_is (d : Dcl) (h1 : d.n ≤ 255) (h2 : over .zero d = d.s) : chkD d = chk (over .zero d) := by
  unfold chkD vldD chk
  rw [decide_eq_true h1, decide_eq_true h2, h2]
  rfl
theorem chkD_eq (d : Dcl) (h2 : ¬ over .zero d = d.s) : chkD d = 60 := by
  unfold chkD vldD
  rw [decide_eq_false h2]
  simp
theorem chkD_high (d : Dcl) (h1 : ¬ d.n ≤ 255) : chkD d = 60 := by
  unfold chkD vldD
  rw [decide_eq_false h1]
  simp

end Go.Proofs.Ytnoenccpbbkdeaa
