/- Contracts of layers below. -/
import Derived.Test.YtmceblkjbpbcoaaGreatDoorPRowF
namespace Go.Proofs.YtmceblkjbpbcoaaGreatDoor
open Go.ChangeShapes Go.WideShapes Go.ChangeAt Go.RowKit
namespace Ce
structure Cl where
 k : Int
 node : Int
 ch : Int
 adv : Int
 sf : Bool
 em : Bool
deriving DecidableEq
def clA (c : Cl) : Array Value := #[.int .u8 c.k, .int .i64 c.node, .int .i64 c.ch, .int .i64 c.adv, .bool c.sf, .bool c.em]
def zCl : Cl := ⟨0, 0, 0, 0, false, false⟩
theorem uCl : Tryz.prog.underlying 39 = some (.struct (Tryz.prog.fieldsOf 39)) := by kernel_rfl
theorem iCl (x : Cl) : (Tryz.prog.info? 39).map (·.size) = some (clA x).size := by kernel_rfl
theorem oneCl (x : Cl) : (clA x).all (·.oneCell') = true := by kernel_rfl
theorem elhCl : Elh Tryz.prog 33 39 6 40 := ⟨Tryz.underlying33, ⟨.agg (clA zCl), by kernel_rfl, rfl⟩, by decide, by decide⟩
theorem bxCl (x : Cl) (w : World) : (Instr.box 39 (.agg (clA x))).run Tryz.prog w = .ok (.pointer (some ⟨w.heap.size, 0, none⟩)) (w.alloc (.cells (clA x) 39)) := by kernel_rfl
section
variable {ops : Array Oper} {Q : Exit -> Act -> World -> Prop} {a : Act} {w : World} {rest : List Oper} {o o1 o2 : Oper}
theorem rdCl (x : Operand) (ho : o.op = .load 39 x) (p : Addr) (hx : a.eval x = .pointer (some p)) (s : Cl) (hL : qar w p (clA s)) : (execOp a.eval o).run Tryz.prog w = .ok (.value (.agg (clA s))) w := qat 39 x ho p hx (clA s) _ hL uCl rfl (iCl s)
theorem bxClV (hg : o.guard = none) (x : Operand) (ho : o.op = .box 39 x) (s : Cl) (hx : a.eval x = .agg (clA s)) (h : ∀ w', Below w.heap.size w w' -> Blk w' w.heap.size 39 (clA s) -> wpList Tryz.prog ops Q rest (a.put o.dst (.pointer (some ⟨w.heap.size, 0, none⟩))) w') : wpList Tryz.prog ops Q (o :: rest) a w :=
 qaq hg 39 x ho (clA s) hx (bxCl s) h
end
def qhn (l : List Cl) : List Value := (l.map fun s => (clA s).toList).flatten
theorem qlb (l : List Cl) (s : Cl) : qhn (l ++ [s]) = qhn l ++ (clA s).toList := by simp [qhn]
def qpe (base : Nat) (w : World) (v : Value) (l : List Cl) : Prop := w.ownsRow base 39 6 v l.length (qhn l)
def qkj (w : World) (v : Value) (l : List Cl) : Prop := qa5 6 (fun _ => False) w v (l.map fun s => (clA s).toList)
theorem qkj.below {w w' : World} {v : Value} {l : List Cl} (h : qkj w v l) (b : Below w.heap.size w w') : qkj w' v l := qa5.below h b
theorem qkj.form {w : World} {v : Value} {l : List Cl} (h : qkj w v l) : ∃ A c, v = .slice A l.length c := by
 have := qa5.form h
 rwa [xao] at this
theorem qkj.get {w wx : World} {v : Value} {l : List Cl} (h : qkj w v l) (b : Below w.heap.size w wx) {i : Nat} {s : Cl} (hi : l[i]? = some s) :
 ∃ a cap o, v = .slice (some a) l.length cap /\ a.block < w.heap.size /\ a.add (i * 6) = ⟨a.block, o, none⟩ /\ qar wx ⟨a.block, o, none⟩ (clA s) := by
 obtain ⟨a, cap, o, hv, hb, _, ha, hc⟩ := qa5.get h b (x := (clA s).toList) (by rw [xan, hi]; rfl) (by simp [clA])
 rw [xao] at hv
 exact ⟨a, cap, o, hv, hb, ha, qdq rfl hc⟩
theorem qut {w : World} {base : Nat} {v : Value} {l : List Cl} (h : qpe base w v l) : qkj w v l := by
 have h2 : qa5 6 (fun b => b < base) w v (l.map fun s => (clA s).toList) := qa5.of_own h rfl (by rw [xao]) (fun x hx => by
  obtain ⟨s, _, rfl⟩ := List.mem_map.1 hx
  rfl)
 exact qa5.mono (T := fun _ => False) h2 fun _ _ h => h.elim
theorem qkj.lit (w : World) (l : List Cl) (n : Nat) (cs : Array Value) (hn : l.length = n) (hc : cs.toList = qhn l) : qkj (w.alloc (.cells cs 39)) (.slice (some ⟨w.heap.size, 0, none⟩) n n) l :=
 qee (Blk.new w 39 cs) (fun x hx => by obtain ⟨s, _, rfl⟩ := List.mem_map.1 hx; rfl) hc (by rw [xao, hn])
end Ce
end Go.Proofs.YtmceblkjbpbcoaaGreatDoor
