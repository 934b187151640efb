/- Cells as values, and rows of them: api.Cell. No walk. -/
import Derived.Test.YtddihpiheopleaaApH
import Derived.Test.YtddihpiheopleaaRowF
namespace Go.Proofs.Ytddihpiheopleaa.Ce
open Go.ChangeShapes Go.WideShapes Go.ChangeAt Go.RowKit

/-- a cell: its kind, node, character, advance, and whether a line may end ahead of it -/
structure Cl where
  k : Int
  node : Int
  ch : Int
  adv : Int
  sf : Bool
  em : Bool
deriving DecidableEq
/-! ### api.Cell -/
def clA (c : Cl) : Array Value := #[.int .u8 c.k, .int .i64 c.node, .int .i64 c.ch, .int .i64 c.adv, .bool c.sf, .bool c.em]
def zCl : Cl := ⟨0, 0, 0, 0, false, false⟩
theorem uCl : Try.prog.underlying 35 = some (.struct (Try.prog.fieldsOf 35)) := by kernel_rfl
theorem iCl (x : Cl) : (Try.prog.info? 35).map (·.size) = some (clA x).size := by kernel_rfl
theorem oneCl (x : Cl) : (clA x).all (·.oneCell') = true := by kernel_rfl
theorem elhCl : Elh Try.prog 22 35 6 40 := ⟨Try.underlying22, ⟨.agg (clA zCl), by kernel_rfl, rfl⟩, by decide, by decide⟩
theorem bsCl (x : Cl) (w : World) : (Instr.buildSlice 22 1 #[(0, .agg (clA x))]).run Try.prog w = .ok (.slice (some ⟨w.heap.size, 0, none⟩) 1 1) (w.alloc (.cells (clA x) 35)) := by kernel_rfl
theorem bxCl (x : Cl) (w : World) : (Instr.box 35 (.agg (clA x))).run Try.prog w = .ok (.pointer (some ⟨w.heap.size, 0, none⟩)) (w.alloc (.cells (clA x) 35)) := by kernel_rfl
section
variable {ops : Array Oper} {Q : Exit → Act → World → Prop} {a : Act} {w : World} {rest : List Oper} {o o1 o2 : Oper}
theorem rdCl (x : Operand) (ho : o.op = .load 35 x) (p : Addr) (hx : a.eval x = .pointer (some p)) (s : Cl) (hL : Lies w p (clA s)) : (execOp a.eval o).run Try.prog w = .ok (.value (.agg (clA s))) w := run_op_load 35 x ho p hx (clA s) _ hL uCl rfl (iCl s)
theorem ldCl (hg : o.guard = none) (x : Operand) (ho : o.op = .load 35 x) (p : Addr) (hx : a.eval x = .pointer (some p)) (s : Cl) (hL : Lies w p (clA s))
    (h : wpList Try.prog ops Q rest (a.put o.dst (.agg (clA s))) w) : wpList Try.prog ops Q (o :: rest) a w := wpList_loadL hg 35 x ho p hx (clA s) _ hL uCl rfl (iCl s) h
theorem bxClV (hg : o.guard = none) (x : Operand) (ho : o.op = .box 35 x) (s : Cl) (hx : a.eval x = .agg (clA s)) (h : ∀ w', Below w.heap.size w w' → Blk w' w.heap.size 35 (clA s) → wpList Try.prog ops Q rest (a.put o.dst (.pointer (some ⟨w.heap.size, 0, none⟩))) w') : wpList Try.prog ops Q (o :: rest) a w :=
  wpList_boxL hg 35 x ho (clA s) hx (bxCl s) h
end
def flatCl (l : List Cl) : List Value := (l.map fun s => (clA s).toList).flatten
theorem flatCl_snoc (l : List Cl) (s : Cl) : flatCl (l ++ [s]) = flatCl l ++ (clA s).toList := by simp [flatCl]
/-- a row of cells of the call's own -/
def OwCl (base : Nat) (w : World) (v : Value) (l : List Cl) : Prop := w.ownsRow base 35 6 v l.length (flatCl l)

/-- v is a slice that reads as the cells l -/
def RwCl (w : World) (v : Value) (l : List Cl) : Prop := RowN 6 (fun _ => False) w v (l.map fun s => (clA s).toList)
theorem RwCl.below {w w' : World} {v : Value} {l : List Cl} (h : RwCl w v l) (b : Below w.heap.size w w') : RwCl w' v l := RowN.below h b
theorem RwCl.form {w : World} {v : Value} {l : List Cl} (h : RwCl w v l) : ∃ A c, v = .slice A l.length c := by
  have := RowN.form h
  rwa [List.length_map] at this
theorem RwCl.get {w wx : World} {v : Value} {l : List Cl} (h : RwCl w v l) (b : Below w.heap.size w wx) {i : Nat} {s : Cl} (hi : l[i]? = some s) :
    ∃ a cap o, v = .slice (some a) l.length cap ∧ a.block < w.heap.size ∧ a.add (i * 6) = ⟨a.block, o, none⟩ ∧ Lies wx ⟨a.block, o, none⟩ (clA s) := by
  obtain ⟨a, cap, o, hv, hb, _, ha, hc⟩ := RowN.get h b (x := (clA s).toList) (by rw [List.getElem?_map, hi]; rfl) (by simp [clA])
  rw [List.length_map] at hv
  exact ⟨a, cap, o, hv, hb, ha, lies_of rfl hc⟩
theorem own_rwCl {w : World} {base : Nat} {v : Value} {l : List Cl} (h : OwCl base w v l) : RwCl w v l := by
  have h2 : RowN 6 (fun b => b < base) w v (l.map fun s => (clA s).toList) := RowN.of_own h rfl (by rw [List.length_map]) (fun x hx => by
    obtain ⟨s, _, rfl⟩ := List.mem_map.1 hx
    rfl)
  exact RowN.mono (T := fun _ => False) h2 fun _ _ h => h.elim

theorem RwCl.nil_ {w : World} : RwCl w (.slice none 0 0) [] := .inl ⟨rfl, rfl⟩
theorem RwCl.lit (w : World) (l : List Cl) (n : Nat) (cs : Array Value) (hn : l.length = n) (hc : cs.toList = flatCl l) : RwCl (w.alloc (.cells cs 35)) (.slice (some ⟨w.heap.size, 0, none⟩) n n) l :=
  blk_rowN (Blk.new w 35 cs) (fun x hx => by obtain ⟨s, _, rfl⟩ := List.mem_map.1 hx; rfl) hc (by rw [List.length_map, hn])
theorem RwCl.take {w : World} {a : Addr} {n cap m : Nat} {l : List Cl} (h : RwCl w (.slice (some a) n cap) l) (hm : m ≤ l.length) : RwCl w (.slice (some a) m cap) (l.take m) := by
  have := RowN.take h (m := m) (by rw [List.length_map]; exact hm)
  rw [← List.map_take] at this
  exact this
theorem RwCl.drop {w : World} {a : Addr} {n cap m d c : Nat} {l : List Cl} (h : RwCl w (.slice (some a) n cap) l) (hm : m = l.length - d) : RwCl w (.slice (some (a.add (d * 6))) m c) (l.drop d) := by
  have := RowN.drop (c := c) h (d := d) (m := m) (by rw [List.length_map]; exact hm)
  rw [← List.map_drop] at this
  exact this
theorem RwCl.hi {w : World} {A : Option Addr} {n cap m : Nat} {l : List Cl} (h : RwCl w (.slice A n cap) l) (hm : m ≤ l.length) : RwCl w (.slice A m cap) (l.take m) := by
  have := RowN.hi h (m := m) (by rw [List.length_map]; exact hm)
  rw [← List.map_take] at this
  exact this
theorem RwCl.lo {w : World} {A : Option Addr} {n cap m : Nat} {l : List Cl} (h : RwCl w (.slice A n cap) l) (hm : m ≤ n) (hc : n ≤ cap) : RwCl w (loV 6 A n cap m) (l.drop m) := by
  have := RowN.lo h hm hc
  rw [← List.map_drop] at this
  exact this
end Go.Proofs.Ytddihpiheopleaa.Ce
