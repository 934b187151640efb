/- Styles and declarations as values; comparisons, loads, boxes, new variables of them; contracts of the 24 functions of style's parts. No condition. -/
import Derived.Test.YtejcfhfmdijimaaDoorYMath
import Derived.Test.YtejcfhfmdijimaaDoorYLaws
namespace Go.Proofs.YtejcfhfmdijimaaDoor
open Go.ChangeShapes Go.WideShapes Go.ChangeAt Go.RowKit

def Sty.cells (s : Sty) : Array Value := #[.int .u8 s.a0, .int .u8 s.a1, .int .u8 s.a2, .int .u8 s.a3, .int .i64 s.a4, .int .i64 s.a5, .int .i64 s.a6, .int .u8 s.a7, .int .i64 s.a8]
def Dcl.cells (d : Dcl) : Array Value := #[.int .u16 (d.n : Int), .int .u8 d.s.a0, .int .u8 d.s.a1, .int .u8 d.s.a2, .int .u8 d.s.a3, .int .i64 d.s.a4, .int .i64 d.s.a5, .int .i64 d.s.a6, .int .u8 d.s.a7, .int .i64 d.s.a8]

theorem uS : Tryd.prog.underlying 33 = some (.struct (Tryd.prog.fieldsOf 33)) := by kernel_rfl
theorem iS : (Tryd.prog.info? 33).map (·.size) = some 9 := by kernel_rfl
theorem alS (w : World) : (Instr.alloc 33 true (.tuple #[])).run Tryd.prog w = .ok (.pointer (some ⟨w.heap.size, 0, none⟩)) (w.alloc (.cells Sty.zero.cells 33)) := by kernel_rfl
theorem bxS (s : Sty) (w : World) : (Instr.box 33 (.agg s.cells)).run Tryd.prog w = .ok (.pointer (some ⟨w.heap.size, 0, none⟩)) (w.alloc (.cells s.cells 33)) := by kernel_rfl
/-! ### comparisons -/
theorem sty_eq (c d : Sty) : c = d ↔ c.a0 = d.a0 ∧ c.a1 = d.a1 ∧ c.a2 = d.a2 ∧ c.a3 = d.a3 ∧ c.a4 = d.a4 ∧ c.a5 = d.a5 ∧ c.a6 = d.a6 ∧ c.a7 = d.a7 ∧ c.a8 = d.a8 := by
  cases c; cases d; simp
theorem dcl_eq (c d : Dcl) : c = d ↔ c.n = d.n ∧ c.s = d.s := by
  cases c; cases d; simp
theorem dec_and (p q : Prop) [Decidable p] [Decidable q] [Decidable (p ∧ q)] : decide (p ∧ q) = (decide p && decide q) := by simp
theorem sty_dec (c d : Sty) : decide (c = d) = (decide (c.a0 = d.a0) && (decide (c.a1 = d.a1) && (decide (c.a2 = d.a2) && (decide (c.a3 = d.a3) && (decide (c.a4 = d.a4) && (decide (c.a5 = d.a5) && (decide (c.a6 = d.a6) && (decide (c.a7 = d.a7) && decide (c.a8 = d.a8))))))))) := by
  simp only [← dec_and]
  rw [decide_eq_decide]
  exact sty_eq c d
theorem dcl_dec (c d : Dcl) : decide (c = d) = (decide ((c.n : Int) = (d.n : Int)) && decide (c.s = d.s)) := by
  simp only [← dec_and]
  rw [decide_eq_decide]
  rw [Int.natCast_inj]
  exact dcl_eq c d
theorem ite_and (p : Prop) [Decidable p] (x : Bool) (w : World) : (if p then Result.ok (Value.bool x) w else Result.ok (Value.bool false) w) = Result.ok (Value.bool (decide p && x)) w := by
  by_cases h : p <;> simp [h]
theorem ite_or (p : Prop) [Decidable p] (x : Bool) (w : World) : (if p then Result.ok (Value.bool x) w else Result.ok (Value.bool true) w) = Result.ok (Value.bool (!decide p || x)) w := by
  by_cases h : p <;> simp [h]

end Go.Proofs.YtejcfhfmdijimaaDoor
