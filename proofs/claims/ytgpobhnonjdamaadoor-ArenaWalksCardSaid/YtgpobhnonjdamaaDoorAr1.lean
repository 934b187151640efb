/- Nodes as values: cells; comparisons, loads, boxes, new variables and stores of them as arms of a walk. No condition. -/
import Derived.Test.YtgpobhnonjdamaaDoorArNod
import Derived.Test.YtgpobhnonjdamaaDoorY2
namespace Go.Proofs.YtgpobhnonjdamaaDoor
open Go.ChangeShapes Go.WideShapes Go.ChangeAt Go.RowKit

def Nod.cells (x : Nod) : Array Value := #[.int .u8 x.k, .int .i64 x.p, .string x.t, .int .u16 (x.d.n : Int), .int .u8 x.d.s.a0, .int .u8 x.d.s.a1, .int .u8 x.d.s.a2, .int .u8 x.d.s.a3, .int .i64 x.d.s.a4, .int .i64 x.d.s.a5, .int .i64 x.d.s.a6, .int .u8 x.d.s.a7, .int .i64 x.d.s.a8, .int .u8 x.vk, .int .i64 x.vn, .int .i64 x.st, .int .i64 x.en, .int .i64 x.tp, .int .i64 x.bt, .int .i64 x.wd, .int .i64 x.gr, .int .i64 x.sh]
theorem uN : Tryd.prog.underlying 37 = some (.struct (Tryd.prog.fieldsOf 37)) := by kernel_rfl
theorem iN : (Tryd.prog.info? 37).map (·.size) = some 22 := by kernel_rfl
theorem alN (w : World) : (Instr.alloc 37 true (.tuple #[])).run Tryd.prog w = .ok (.pointer (some ⟨w.heap.size, 0, none⟩)) (w.alloc (.cells Nod.zero.cells 37)) := by kernel_rfl
theorem bxN (s : Nod) (w : World) : (Instr.box 37 (.agg s.cells)).run Tryd.prog w = .ok (.pointer (some ⟨w.heap.size, 0, none⟩)) (w.alloc (.cells s.cells 37)) := by kernel_rfl
theorem ba_dec (a b : ByteArray) : decide (a = b) = decide (a.toList = b.toList) := by
  rw [decide_eq_decide]
  constructor
  · rintro rfl; rfl
  · intro h
    rw [ByteArray.toList_eq, ByteArray.toList_eq] at h
    cases a; cases b
    congr 1
    exact Array.toList_inj.1 h
theorem uV : Tryd.prog.underlying 35 = some (.struct (Tryd.prog.fieldsOf 35)) := by kernel_rfl
theorem oneN (s : Nod) : s.cells.all (·.oneCell') = true := by kernel_rfl
theorem cellsN (s : Nod) : s.cells.toList.length = 22 := rfl
theorem nod_eq (c d : Nod) : c = d ↔ c.k = d.k ∧ c.p = d.p ∧ c.t = d.t ∧ c.d = d.d ∧ c.vk = d.vk ∧ c.vn = d.vn ∧ c.st = d.st ∧ c.en = d.en ∧ c.tp = d.tp ∧ c.bt = d.bt ∧ c.wd = d.wd ∧ c.gr = d.gr ∧ c.sh = d.sh := by
  cases c; cases d; simp
theorem nod_dec (c d : Nod) : decide (c = d) = (decide (c.k = d.k) && (decide (c.p = d.p) && (decide (c.t = d.t) && (decide (c.d = d.d) && (decide (c.vk = d.vk) && (decide (c.vn = d.vn) && (decide (c.st = d.st) && (decide (c.en = d.en) && (decide (c.tp = d.tp) && (decide (c.bt = d.bt) && (decide (c.wd = d.wd) && (decide (c.gr = d.gr) && decide (c.sh = d.sh))))))))))))) := by
  simp only [← dec_and]
  rw [decide_eq_decide]
  exact nod_eq c d
section
variable {ops : Array Oper} {Q : Exit → Act → World → Prop} {a : Act} {w : World} {rest : List Oper} {o o1 o2 : Oper}
theorem ldN (hg : o.guard = none) (x : Operand) (ho : o.op = .load 37 x) (p : Addr) (hx : a.eval x = .pointer (some p)) (s : Nod) (hL : Lies w p s.cells)
    (h : wpList Tryd.prog ops Q rest (a.put o.dst (.agg s.cells)) w) : wpList Tryd.prog ops Q (o :: rest) a w := wpList_loadL hg 37 x ho p hx s.cells _ hL uN rfl iN h
theorem ldNIf (hw : Region.wanted o (yielded ops a.tmps) = true) (x : Operand) (ho : o.op = .load 37 x) (p : Addr) (hx : a.eval x = .pointer (some p)) (s : Nod) (hL : Lies w p s.cells)
    (h : wpList Tryd.prog ops Q rest (a.put o.dst (.agg s.cells)) w) : wpList Tryd.prog ops Q (o :: rest) a w := wpList_valIf hw _ rfl _ _ (run_op_load 37 x ho p hx s.cells _ hL uN rfl iN) h
theorem rdN (x : Operand) (ho : o.op = .load 37 x) (p : Addr) (hx : a.eval x = .pointer (some p)) (s : Nod) (hL : Lies w p s.cells) : (execOp a.eval o).run Tryd.prog w = .ok (.value (.agg s.cells)) w := run_op_load 37 x ho p hx s.cells _ hL uN rfl iN
theorem alNV (hg : o.guard = none) (ho : o.op = .alloc 37) (h : ∀ w', Below w.heap.size w w' → Blk w' w.heap.size 37 (Nod.zero).cells → wpList Tryd.prog ops Q rest (a.put o.dst (.pointer (some ⟨w.heap.size, 0, none⟩))) w') : wpList Tryd.prog ops Q (o :: rest) a w :=
  wpList_newV hg 37 ho _ alN h
theorem bxNV (hg : o.guard = none) (x : Operand) (ho : o.op = .box 37 x) (s : Nod) (hx : a.eval x = .agg s.cells) (h : ∀ w', Below w.heap.size w w' → Blk w' w.heap.size 37 s.cells → wpList Tryd.prog ops Q rest (a.put o.dst (.pointer (some ⟨w.heap.size, 0, none⟩))) w') : wpList Tryd.prog ops Q (o :: rest) a w :=
  wpList_boxL hg 37 x ho s.cells hx (bxN s) h
theorem stN (hg : o.guard = none) (x y : Operand) (ho : o.op = .store 37 x y) (hd : o.dst = none) (g : Nat) (hx : a.eval x = .pointer (some ⟨g, 0, none⟩)) (s : Nod) (hy : a.eval y = .agg s.cells) {t : TypeId} (old : Nod) (hB : Blk w g t old.cells)
    (h : ∀ w', Mod (fun k => k = g) w w' → Blk w' g t s.cells → wpList Tryd.prog ops Q rest a w') : wpList Tryd.prog ops Q (o :: rest) a w :=
  wpList_storeL hg 37 x y ho hd g hx s.cells hy t old.cells hB iN rfl (oneN s) h
theorem nwN (hg1 : o1.guard = none) (hg2 : o2.guard = none) (D : Tmp) (hd1 : o1.dst = some D) (ho1 : o1.op = .alloc 37) (y : Operand) (ho2 : o2.op = .store 37 (.tmp D) y) (hd2 : o2.dst = none)
    (s : Nod) (hx : ∀ v, (a.put (some D) v).eval (.tmp D) = v) (hy : ∀ v, (a.put (some D) v).eval y = .agg s.cells)
    (h : ∀ w', Below w.heap.size w w' → Blk w' w.heap.size 37 s.cells → wpList Tryd.prog ops Q rest (a.put (some D) (.pointer (some ⟨w.heap.size, 0, none⟩))) w') : wpList Tryd.prog ops Q (o1 :: o2 :: rest) a w :=
  wpList_newS hg1 hg2 37 D hd1 ho1 y ho2 hd2 _ alN s.cells hx hy iN rfl (oneN s) h
end
/-- a node's declaration -/
theorem nod_d (x : Nod) : ∀ (j : Nat) (v : Value), x.d.cells[j]? = some v → x.cells[3 + j]? = some v := fun j v hv => by
  have hj : j < 10 := (Array.getElem?_eq_some_iff.1 hv).1
  match j, hj with
  | 0, _ => exact hv
  | 1, _ => exact hv
  | 2, _ => exact hv
  | 3, _ => exact hv
  | 4, _ => exact hv
  | 5, _ => exact hv
  | 6, _ => exact hv
  | 7, _ => exact hv
  | 8, _ => exact hv
  | 9, _ => exact hv

set_option maxRecDepth 100000 in
set_option maxHeartbeats 1000000 in
theorem eqN (c d : Nod) (w : World) (b : Bool) (hb : decide (c = d) = b) : (binOp .eql 37 (.agg c.cells) (.agg d.cells)).run Tryd.prog w = .ok (.bool b) w := by
  subst hb
  have u1 := Tryd.underlying5
  have u2 := Tryd.underlying3
  have u3 := Tryd.underlying2
  have u4 := Tryd.underlying29
  have u5 := Tryd.underlying9
  have he := fun n xs ys => run_equalIn_agg (P := Tryd.prog) w n 31 xs ys uS (by kernel_rfl)
  simp only [Program.fieldsOf, Tryd.underlying31] at he
  have hd := fun n xs ys => run_equalIn_agg (P := Tryd.prog) w n 33 xs ys uD (by kernel_rfl)
  simp only [Program.fieldsOf, Tryd.underlying33] at hd
  have hv := fun n xs ys => run_equalIn_agg (P := Tryd.prog) w n 35 xs ys uV (by kernel_rfl)
  simp only [Program.fieldsOf, Tryd.underlying35] at hv
  rw [nod_dec, dcl_dec, sty_dec]
  unfold Nod.cells
  rw [run_eql_struct, show (10000 : Nat) = 9999 + 1 from rfl, run_equalIn_agg w 9999 37 _ _ uN (by kernel_rfl)]
  simp only [Program.fieldsOf, Tryd.underlying37]
  go_simp
  simp only [ite_and, Bool.and_true, Bool.and_assoc, ba_dec]

set_option maxRecDepth 100000 in
set_option maxHeartbeats 1000000 in
theorem neN (c d : Nod) (w : World) (b : Bool) (hb : decide (c = d) = b) : (binOp .neq 37 (.agg c.cells) (.agg d.cells)).run Tryd.prog w = .ok (.bool (!b)) w := by
  subst hb
  have u1 := Tryd.underlying5
  have u2 := Tryd.underlying3
  have u3 := Tryd.underlying2
  have u4 := Tryd.underlying29
  have u5 := Tryd.underlying9
  have he := fun n xs ys => run_equalIn_agg (P := Tryd.prog) w n 31 xs ys uS (by kernel_rfl)
  simp only [Program.fieldsOf, Tryd.underlying31] at he
  have hd := fun n xs ys => run_equalIn_agg (P := Tryd.prog) w n 33 xs ys uD (by kernel_rfl)
  simp only [Program.fieldsOf, Tryd.underlying33] at hd
  have hv := fun n xs ys => run_equalIn_agg (P := Tryd.prog) w n 35 xs ys uV (by kernel_rfl)
  simp only [Program.fieldsOf, Tryd.underlying35] at hv
  rw [nod_dec, dcl_dec, sty_dec]
  unfold Nod.cells
  rw [run_neq_struct, show (10000 : Nat) = 9999 + 1 from rfl, run_equalIn_agg w 9999 37 _ _ uN (by kernel_rfl)]
  simp only [Program.fieldsOf, Tryd.underlying37]
  go_simp
  simp only [ite_or, Bool.or_false, Bool.or_assoc, ba_dec]
end Go.Proofs.YtgpobhnonjdamaaDoor
