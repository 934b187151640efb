/- Loads, boxes, new variables and stores of styles and declarations as arms of a walk; contracts of the 24 functions of style's parts, of validSize and of parts. No condition. -/
import Derived.Test.YtgpobhnonjdamaaDoorY1
namespace Go.Proofs.YtgpobhnonjdamaaDoor
open Go.ChangeShapes Go.WideShapes Go.ChangeAt Go.RowKit

theorem put_same (a : Act) (D : Tmp) (v : Value) (h : D < a.tmps.size) : (a.put (some D) v).eval (.tmp D) = v := by
  simp [Act.put, Act.eval, h]

theorem one23 (s : Sty) : s.cells.all (·.oneCell') = true := by kernel_rfl
theorem one26 (s : Dcl) : s.cells.all (·.oneCell') = true := by kernel_rfl
section
variable {ops : Array Oper} {Q : Exit → Act → World → Prop} {a : Act} {w : World} {rest : List Oper} {o o1 o2 : Oper}

theorem ldS (hg : o.guard = none) (x : Operand) (ho : o.op = .load 31 x) (p : Addr) (hx : a.eval x = .pointer (some p)) (s : Sty) (hL : Lies w p s.cells)
    (h : wpList Tryd.prog ops Q rest (a.put o.dst (.agg s.cells)) w) : wpList Tryd.prog ops Q (o :: rest) a w := wpList_loadL hg 31 x ho p hx s.cells _ hL uS rfl iS h
theorem ldSIf (hw : Region.wanted o (yielded ops a.tmps) = true) (x : Operand) (ho : o.op = .load 31 x) (p : Addr) (hx : a.eval x = .pointer (some p)) (s : Sty) (hL : Lies w p s.cells)
    (h : wpList Tryd.prog ops Q rest (a.put o.dst (.agg s.cells)) w) : wpList Tryd.prog ops Q (o :: rest) a w := wpList_valIf hw _ rfl _ _ (run_op_load 31 x ho p hx s.cells _ hL uS rfl iS) h
theorem rdS (x : Operand) (ho : o.op = .load 31 x) (p : Addr) (hx : a.eval x = .pointer (some p)) (s : Sty) (hL : Lies w p s.cells) : (execOp a.eval o).run Tryd.prog w = .ok (.value (.agg s.cells)) w := run_op_load 31 x ho p hx s.cells _ hL uS rfl iS
theorem alSV (hg : o.guard = none) (ho : o.op = .alloc 31) (h : ∀ w', Below w.heap.size w w' → Blk w' w.heap.size 31 (Sty.zero).cells → wpList Tryd.prog ops Q rest (a.put o.dst (.pointer (some ⟨w.heap.size, 0, none⟩))) w') : wpList Tryd.prog ops Q (o :: rest) a w :=
  wpList_newV hg 31 ho _ alS h
theorem bxSV (hg : o.guard = none) (x : Operand) (ho : o.op = .box 31 x) (s : Sty) (hx : a.eval x = .agg s.cells) (h : ∀ w', Below w.heap.size w w' → Blk w' w.heap.size 31 s.cells → wpList Tryd.prog ops Q rest (a.put o.dst (.pointer (some ⟨w.heap.size, 0, none⟩))) w') : wpList Tryd.prog ops Q (o :: rest) a w :=
  wpList_boxL hg 31 x ho s.cells hx (bxS s) h
theorem stS (hg : o.guard = none) (x y : Operand) (ho : o.op = .store 31 x y) (hd : o.dst = none) (g : Nat) (hx : a.eval x = .pointer (some ⟨g, 0, none⟩)) (s : Sty) (hy : a.eval y = .agg s.cells) {t : TypeId} (old : Sty) (hB : Blk w g t old.cells)
    (h : ∀ w', Mod (fun k => k = g) w w' → Blk w' g t s.cells → wpList Tryd.prog ops Q rest a w') : wpList Tryd.prog ops Q (o :: rest) a w :=
  wpList_storeL hg 31 x y ho hd g hx s.cells hy t old.cells hB iS rfl (one23 s) h
theorem nwS (hg1 : o1.guard = none) (hg2 : o2.guard = none) (D : Tmp) (hd1 : o1.dst = some D) (ho1 : o1.op = .alloc 31) (y : Operand) (ho2 : o2.op = .store 31 (.tmp D) y) (hd2 : o2.dst = none)
    (s : Sty) (hx : ∀ v, (a.put (some D) v).eval (.tmp D) = v) (hy : ∀ v, (a.put (some D) v).eval y = .agg s.cells)
    (h : ∀ w', Below w.heap.size w w' → Blk w' w.heap.size 31 s.cells → wpList Tryd.prog ops Q rest (a.put (some D) (.pointer (some ⟨w.heap.size, 0, none⟩))) w') : wpList Tryd.prog ops Q (o1 :: o2 :: rest) a w :=
  wpList_newS hg1 hg2 31 D hd1 ho1 y ho2 hd2 _ alS s.cells hx hy iS rfl (one23 s) h

theorem ldD (hg : o.guard = none) (x : Operand) (ho : o.op = .load 33 x) (p : Addr) (hx : a.eval x = .pointer (some p)) (s : Dcl) (hL : Lies w p s.cells)
    (h : wpList Tryd.prog ops Q rest (a.put o.dst (.agg s.cells)) w) : wpList Tryd.prog ops Q (o :: rest) a w := wpList_loadL hg 33 x ho p hx s.cells _ hL uD rfl iD h
theorem ldDIf (hw : Region.wanted o (yielded ops a.tmps) = true) (x : Operand) (ho : o.op = .load 33 x) (p : Addr) (hx : a.eval x = .pointer (some p)) (s : Dcl) (hL : Lies w p s.cells)
    (h : wpList Tryd.prog ops Q rest (a.put o.dst (.agg s.cells)) w) : wpList Tryd.prog ops Q (o :: rest) a w := wpList_valIf hw _ rfl _ _ (run_op_load 33 x ho p hx s.cells _ hL uD rfl iD) h
theorem rdD (x : Operand) (ho : o.op = .load 33 x) (p : Addr) (hx : a.eval x = .pointer (some p)) (s : Dcl) (hL : Lies w p s.cells) : (execOp a.eval o).run Tryd.prog w = .ok (.value (.agg s.cells)) w := run_op_load 33 x ho p hx s.cells _ hL uD rfl iD
theorem alDV (hg : o.guard = none) (ho : o.op = .alloc 33) (h : ∀ w', Below w.heap.size w w' → Blk w' w.heap.size 33 (Dcl.zero).cells → wpList Tryd.prog ops Q rest (a.put o.dst (.pointer (some ⟨w.heap.size, 0, none⟩))) w') : wpList Tryd.prog ops Q (o :: rest) a w :=
  wpList_newV hg 33 ho _ alD h
theorem bxDV (hg : o.guard = none) (x : Operand) (ho : o.op = .box 33 x) (s : Dcl) (hx : a.eval x = .agg s.cells) (h : ∀ w', Below w.heap.size w w' → Blk w' w.heap.size 33 s.cells → wpList Tryd.prog ops Q rest (a.put o.dst (.pointer (some ⟨w.heap.size, 0, none⟩))) w') : wpList Tryd.prog ops Q (o :: rest) a w :=
  wpList_boxL hg 33 x ho s.cells hx (bxD s) h
theorem stD (hg : o.guard = none) (x y : Operand) (ho : o.op = .store 33 x y) (hd : o.dst = none) (g : Nat) (hx : a.eval x = .pointer (some ⟨g, 0, none⟩)) (s : Dcl) (hy : a.eval y = .agg s.cells) {t : TypeId} (old : Dcl) (hB : Blk w g t old.cells)
    (h : ∀ w', Mod (fun k => k = g) w w' → Blk w' g t s.cells → wpList Tryd.prog ops Q rest a w') : wpList Tryd.prog ops Q (o :: rest) a w :=
  wpList_storeL hg 33 x y ho hd g hx s.cells hy t old.cells hB iD rfl (one26 s) h
theorem nwD (hg1 : o1.guard = none) (hg2 : o2.guard = none) (D : Tmp) (hd1 : o1.dst = some D) (ho1 : o1.op = .alloc 33) (y : Operand) (ho2 : o2.op = .store 33 (.tmp D) y) (hd2 : o2.dst = none)
    (s : Dcl) (hx : ∀ v, (a.put (some D) v).eval (.tmp D) = v) (hy : ∀ v, (a.put (some D) v).eval y = .agg s.cells)
    (h : ∀ w', Below w.heap.size w w' → Blk w' w.heap.size 33 s.cells → wpList Tryd.prog ops Q rest (a.put (some D) (.pointer (some ⟨w.heap.size, 0, none⟩))) w') : wpList Tryd.prog ops Q (o1 :: o2 :: rest) a w :=
  wpList_newS hg1 hg2 33 D hd1 ho1 y ho2 hd2 _ alD s.cells hx hy iD rfl (one26 s) h
end
/-- a declaration's style -/
theorem Blk.sub {w : World} {g : Nat} {t : TypeId} {d : Dcl} (h : Blk w g t d.cells) : Lies w ⟨g, 1, none⟩ d.s.cells := h.part 1 fun j v hv => by
  have hj : j < 9 := (Array.getElem?_eq_some_iff.1 hv).1
  match j, hj with
  | 0, _ => exact hv
  | 1, _ => exact hv
  | 2, _ => exact hv
  | 3, _ => exact hv
  | 4, _ => exact hv
  | 5, _ => exact hv
  | 6, _ => exact hv
  | 7, _ => exact hv
  | 8, _ => exact hv
theorem blk_cast {w : World} {g : Nat} {t : TypeId} {cs cs' : Array Value} (h : Blk w g t cs) (e : cs = cs') : Blk w g t cs' := e ▸ h

set_option maxHeartbeats 1000000 in
theorem ytake0 (s d : Sty) (g : Nat) (w : World) (hB : Blk w g 31 s.cells) :
    Calls Tryd.prog 73 #[.pointer (some ⟨g, 0, none⟩), .agg d.cells] w fun e w' => e = .returned (.tuple #[]) ∧ Mod (fun k => k = g) w w' ∧ Blk w' g 31 (put1 0 s d).cells := by
  have c0 : w.cell? ⟨g, 0, none⟩ = some (.int .u8 s.a0) := hB.cell 0
  have f0 : w.frozen? ⟨g, 0, none⟩ = false := hB.frozen 0
  have hl := hB.lt
  have HB := Lib.hid hB
  clear hB
  unfold Sty.cells
  go_enter Tryd.func73, Tryd.ntmps73
  go_wp2
  go_end0
  exact ⟨rfl, (((Mod.refl (fun k => k = g) w)).setCell (p := ⟨g, 0, none⟩) (.inl rfl) _).alloc _, blk_cast (((HB.out).set_ 0 _).alloc _) (by simp [Sty.cells, put1])⟩

set_option maxHeartbeats 1000000 in
theorem ytake1 (s d : Sty) (g : Nat) (w : World) (hB : Blk w g 31 s.cells) :
    Calls Tryd.prog 76 #[.pointer (some ⟨g, 0, none⟩), .agg d.cells] w fun e w' => e = .returned (.tuple #[]) ∧ Mod (fun k => k = g) w w' ∧ Blk w' g 31 (put1 1 s d).cells := by
  have c1 : w.cell? ⟨g, 1, none⟩ = some (.int .u8 s.a1) := hB.cell 1
  have f1 : w.frozen? ⟨g, 1, none⟩ = false := hB.frozen 1
  have hl := hB.lt
  have HB := Lib.hid hB
  clear hB
  unfold Sty.cells
  go_enter Tryd.func76, Tryd.ntmps76
  go_wp2
  go_end0
  exact ⟨rfl, (((Mod.refl (fun k => k = g) w)).setCell (p := ⟨g, 1, none⟩) (.inl rfl) _).alloc _, blk_cast (((HB.out).set_ 1 _).alloc _) (by simp [Sty.cells, put1])⟩

set_option maxHeartbeats 1000000 in
theorem ytake2 (s d : Sty) (g : Nat) (w : World) (hB : Blk w g 31 s.cells) :
    Calls Tryd.prog 79 #[.pointer (some ⟨g, 0, none⟩), .agg d.cells] w fun e w' => e = .returned (.tuple #[]) ∧ Mod (fun k => k = g) w w' ∧ Blk w' g 31 (put1 2 s d).cells := by
  have c2 : w.cell? ⟨g, 2, none⟩ = some (.int .u8 s.a2) := hB.cell 2
  have f2 : w.frozen? ⟨g, 2, none⟩ = false := hB.frozen 2
  have hl := hB.lt
  have HB := Lib.hid hB
  clear hB
  unfold Sty.cells
  go_enter Tryd.func79, Tryd.ntmps79
  go_wp2
  go_end0
  exact ⟨rfl, (((Mod.refl (fun k => k = g) w)).setCell (p := ⟨g, 2, none⟩) (.inl rfl) _).alloc _, blk_cast (((HB.out).set_ 2 _).alloc _) (by simp [Sty.cells, put1])⟩

set_option maxHeartbeats 1000000 in
theorem ytake3 (s d : Sty) (g : Nat) (w : World) (hB : Blk w g 31 s.cells) :
    Calls Tryd.prog 82 #[.pointer (some ⟨g, 0, none⟩), .agg d.cells] w fun e w' => e = .returned (.tuple #[]) ∧ Mod (fun k => k = g) w w' ∧ Blk w' g 31 (put1 3 s d).cells := by
  have c3 : w.cell? ⟨g, 3, none⟩ = some (.int .u8 s.a3) := hB.cell 3
  have f3 : w.frozen? ⟨g, 3, none⟩ = false := hB.frozen 3
  have hl := hB.lt
  have HB := Lib.hid hB
  clear hB
  unfold Sty.cells
  go_enter Tryd.func82, Tryd.ntmps82
  go_wp2
  go_end0
  exact ⟨rfl, (((Mod.refl (fun k => k = g) w)).setCell (p := ⟨g, 3, none⟩) (.inl rfl) _).alloc _, blk_cast (((HB.out).set_ 3 _).alloc _) (by simp [Sty.cells, put1])⟩

set_option maxHeartbeats 1000000 in
theorem ytake4 (s d : Sty) (g : Nat) (w : World) (hB : Blk w g 31 s.cells) :
    Calls Tryd.prog 85 #[.pointer (some ⟨g, 0, none⟩), .agg d.cells] w fun e w' => e = .returned (.tuple #[]) ∧ Mod (fun k => k = g) w w' ∧ Blk w' g 31 (put1 4 s d).cells := by
  have c4 : w.cell? ⟨g, 4, none⟩ = some (.int .i64 s.a4) := hB.cell 4
  have f4 : w.frozen? ⟨g, 4, none⟩ = false := hB.frozen 4
  have hl := hB.lt
  have HB := Lib.hid hB
  clear hB
  unfold Sty.cells
  go_enter Tryd.func85, Tryd.ntmps85
  go_wp2
  go_end0
  exact ⟨rfl, (((Mod.refl (fun k => k = g) w)).setCell (p := ⟨g, 4, none⟩) (.inl rfl) _).alloc _, blk_cast (((HB.out).set_ 4 _).alloc _) (by simp [Sty.cells, put1])⟩

set_option maxHeartbeats 1000000 in
theorem ytake5 (s d : Sty) (g : Nat) (w : World) (hB : Blk w g 31 s.cells) :
    Calls Tryd.prog 88 #[.pointer (some ⟨g, 0, none⟩), .agg d.cells] w fun e w' => e = .returned (.tuple #[]) ∧ Mod (fun k => k = g) w w' ∧ Blk w' g 31 (put1 5 s d).cells := by
  have c5 : w.cell? ⟨g, 5, none⟩ = some (.int .i64 s.a5) := hB.cell 5
  have f5 : w.frozen? ⟨g, 5, none⟩ = false := hB.frozen 5
  have hl := hB.lt
  have HB := Lib.hid hB
  clear hB
  unfold Sty.cells
  go_enter Tryd.func88, Tryd.ntmps88
  go_wp2
  go_end0
  exact ⟨rfl, (((Mod.refl (fun k => k = g) w)).setCell (p := ⟨g, 5, none⟩) (.inl rfl) _).alloc _, blk_cast (((HB.out).set_ 5 _).alloc _) (by simp [Sty.cells, put1])⟩

set_option maxHeartbeats 1000000 in
theorem ytake6 (s d : Sty) (g : Nat) (w : World) (hB : Blk w g 31 s.cells) :
    Calls Tryd.prog 92 #[.pointer (some ⟨g, 0, none⟩), .agg d.cells] w fun e w' => e = .returned (.tuple #[]) ∧ Mod (fun k => k = g) w w' ∧ Blk w' g 31 (put1 6 s d).cells := by
  have c6 : w.cell? ⟨g, 6, none⟩ = some (.int .i64 s.a6) := hB.cell 6
  have f6 : w.frozen? ⟨g, 6, none⟩ = false := hB.frozen 6
  have hl := hB.lt
  have HB := Lib.hid hB
  clear hB
  unfold Sty.cells
  go_enter Tryd.func92, Tryd.ntmps92
  go_wp2
  go_end0
  exact ⟨rfl, (((Mod.refl (fun k => k = g) w)).setCell (p := ⟨g, 6, none⟩) (.inl rfl) _).alloc _, blk_cast (((HB.out).set_ 6 _).alloc _) (by simp [Sty.cells, put1])⟩

set_option maxHeartbeats 1000000 in
theorem ytake7 (s d : Sty) (g : Nat) (w : World) (hB : Blk w g 31 s.cells) :
    Calls Tryd.prog 95 #[.pointer (some ⟨g, 0, none⟩), .agg d.cells] w fun e w' => e = .returned (.tuple #[]) ∧ Mod (fun k => k = g) w w' ∧ Blk w' g 31 (put1 7 s d).cells := by
  have c7 : w.cell? ⟨g, 7, none⟩ = some (.int .u8 s.a7) := hB.cell 7
  have f7 : w.frozen? ⟨g, 7, none⟩ = false := hB.frozen 7
  have c8 : w.cell? ⟨g, 8, none⟩ = some (.int .i64 s.a8) := hB.cell 8
  have f8 : w.frozen? ⟨g, 8, none⟩ = false := hB.frozen 8
  have hl := hB.lt
  have HB := Lib.hid hB
  clear hB
  unfold Sty.cells
  go_enter Tryd.func95, Tryd.ntmps95
  go_wp2
  go_region
  go_wp2
  go_end0
  exact ⟨rfl, (((((Mod.refl (fun k => k = g) w)).setCell (p := ⟨g, 7, none⟩) (.inl rfl) _).setCell (p := ⟨g, 8, none⟩) (.inl rfl) _).alloc _).drew, blk_cast (((((HB.out).set_ 7 _).set_ 8 _).alloc _).drewN 1) (by simp [Sty.cells, put1])⟩

set_option maxHeartbeats 1000000 in
theorem yfirst0 (s : Sty) (g : Nat) (w : World) (hB : Blk w g 31 s.cells) :
    Calls Tryd.prog 71 #[.pointer (some ⟨g, 0, none⟩)] w fun e w' => e = .returned (.tuple #[]) ∧ Mod (fun k => k = g) w w' ∧ Blk w' g 31 (put1 0 s .first).cells := by
  have c0 : w.cell? ⟨g, 0, none⟩ = some (.int .u8 s.a0) := hB.cell 0
  have f0 : w.frozen? ⟨g, 0, none⟩ = false := hB.frozen 0
  have hl := hB.lt
  have HB := Lib.hid hB
  clear hB
  go_enter Tryd.func71, Tryd.ntmps71
  go_wp2
  go_end0
  exact ⟨rfl, ((Mod.refl (fun k => k = g) w)).setCell (p := ⟨g, 0, none⟩) (.inl rfl) _, blk_cast ((HB.out).set_ 0 _) (by simp [Sty.cells, put1, Sty.first])⟩

set_option maxHeartbeats 1000000 in
theorem yfirst1 (s : Sty) (g : Nat) (w : World) (hB : Blk w g 31 s.cells) :
    Calls Tryd.prog 74 #[.pointer (some ⟨g, 0, none⟩)] w fun e w' => e = .returned (.tuple #[]) ∧ Mod (fun k => k = g) w w' ∧ Blk w' g 31 (put1 1 s .first).cells := by
  have c1 : w.cell? ⟨g, 1, none⟩ = some (.int .u8 s.a1) := hB.cell 1
  have f1 : w.frozen? ⟨g, 1, none⟩ = false := hB.frozen 1
  have hl := hB.lt
  have HB := Lib.hid hB
  clear hB
  go_enter Tryd.func74, Tryd.ntmps74
  go_wp2
  go_end0
  exact ⟨rfl, ((Mod.refl (fun k => k = g) w)).setCell (p := ⟨g, 1, none⟩) (.inl rfl) _, blk_cast ((HB.out).set_ 1 _) (by simp [Sty.cells, put1, Sty.first])⟩

set_option maxHeartbeats 1000000 in
theorem yfirst2 (s : Sty) (g : Nat) (w : World) (hB : Blk w g 31 s.cells) :
    Calls Tryd.prog 77 #[.pointer (some ⟨g, 0, none⟩)] w fun e w' => e = .returned (.tuple #[]) ∧ Mod (fun k => k = g) w w' ∧ Blk w' g 31 (put1 2 s .first).cells := by
  have c2 : w.cell? ⟨g, 2, none⟩ = some (.int .u8 s.a2) := hB.cell 2
  have f2 : w.frozen? ⟨g, 2, none⟩ = false := hB.frozen 2
  have hl := hB.lt
  have HB := Lib.hid hB
  clear hB
  go_enter Tryd.func77, Tryd.ntmps77
  go_wp2
  go_end0
  exact ⟨rfl, ((Mod.refl (fun k => k = g) w)).setCell (p := ⟨g, 2, none⟩) (.inl rfl) _, blk_cast ((HB.out).set_ 2 _) (by simp [Sty.cells, put1, Sty.first])⟩

set_option maxHeartbeats 1000000 in
theorem yfirst3 (s : Sty) (g : Nat) (w : World) (hB : Blk w g 31 s.cells) :
    Calls Tryd.prog 80 #[.pointer (some ⟨g, 0, none⟩)] w fun e w' => e = .returned (.tuple #[]) ∧ Mod (fun k => k = g) w w' ∧ Blk w' g 31 (put1 3 s .first).cells := by
  have c3 : w.cell? ⟨g, 3, none⟩ = some (.int .u8 s.a3) := hB.cell 3
  have f3 : w.frozen? ⟨g, 3, none⟩ = false := hB.frozen 3
  have hl := hB.lt
  have HB := Lib.hid hB
  clear hB
  go_enter Tryd.func80, Tryd.ntmps80
  go_wp2
  go_end0
  exact ⟨rfl, ((Mod.refl (fun k => k = g) w)).setCell (p := ⟨g, 3, none⟩) (.inl rfl) _, blk_cast ((HB.out).set_ 3 _) (by simp [Sty.cells, put1, Sty.first])⟩

set_option maxHeartbeats 1000000 in
theorem yfirst4 (s : Sty) (g : Nat) (w : World) (hB : Blk w g 31 s.cells) :
    Calls Tryd.prog 83 #[.pointer (some ⟨g, 0, none⟩)] w fun e w' => e = .returned (.tuple #[]) ∧ Mod (fun k => k = g) w w' ∧ Blk w' g 31 (put1 4 s .first).cells := by
  have c4 : w.cell? ⟨g, 4, none⟩ = some (.int .i64 s.a4) := hB.cell 4
  have f4 : w.frozen? ⟨g, 4, none⟩ = false := hB.frozen 4
  have hl := hB.lt
  have HB := Lib.hid hB
  clear hB
  go_enter Tryd.func83, Tryd.ntmps83
  go_wp2
  go_end0
  exact ⟨rfl, ((Mod.refl (fun k => k = g) w)).setCell (p := ⟨g, 4, none⟩) (.inl rfl) _, blk_cast ((HB.out).set_ 4 _) (by simp [Sty.cells, put1, Sty.first])⟩

set_option maxHeartbeats 1000000 in
theorem yfirst5 (s : Sty) (g : Nat) (w : World) (hB : Blk w g 31 s.cells) :
    Calls Tryd.prog 86 #[.pointer (some ⟨g, 0, none⟩)] w fun e w' => e = .returned (.tuple #[]) ∧ Mod (fun k => k = g) w w' ∧ Blk w' g 31 (put1 5 s .first).cells := by
  have c5 : w.cell? ⟨g, 5, none⟩ = some (.int .i64 s.a5) := hB.cell 5
  have f5 : w.frozen? ⟨g, 5, none⟩ = false := hB.frozen 5
  have hl := hB.lt
  have HB := Lib.hid hB
  clear hB
  go_enter Tryd.func86, Tryd.ntmps86
  go_wp2
  go_end0
  exact ⟨rfl, ((Mod.refl (fun k => k = g) w)).setCell (p := ⟨g, 5, none⟩) (.inl rfl) _, blk_cast ((HB.out).set_ 5 _) (by simp [Sty.cells, put1, Sty.first])⟩

set_option maxHeartbeats 1000000 in
theorem yfirst6 (s : Sty) (g : Nat) (w : World) (hB : Blk w g 31 s.cells) :
    Calls Tryd.prog 89 #[.pointer (some ⟨g, 0, none⟩)] w fun e w' => e = .returned (.tuple #[]) ∧ Mod (fun k => k = g) w w' ∧ Blk w' g 31 (put1 6 s .first).cells := by
  have c6 : w.cell? ⟨g, 6, none⟩ = some (.int .i64 s.a6) := hB.cell 6
  have f6 : w.frozen? ⟨g, 6, none⟩ = false := hB.frozen 6
  have hl := hB.lt
  have HB := Lib.hid hB
  clear hB
  go_enter Tryd.func89, Tryd.ntmps89
  go_wp2
  go_end0
  exact ⟨rfl, ((Mod.refl (fun k => k = g) w)).setCell (p := ⟨g, 6, none⟩) (.inl rfl) _, blk_cast ((HB.out).set_ 6 _) (by simp [Sty.cells, put1, Sty.first])⟩

set_option maxHeartbeats 1000000 in
theorem yfirst7 (s : Sty) (g : Nat) (w : World) (hB : Blk w g 31 s.cells) :
    Calls Tryd.prog 93 #[.pointer (some ⟨g, 0, none⟩)] w fun e w' => e = .returned (.tuple #[]) ∧ Mod (fun k => k = g) w w' ∧ Blk w' g 31 (put1 7 s .first).cells := by
  have c7 : w.cell? ⟨g, 7, none⟩ = some (.int .u8 s.a7) := hB.cell 7
  have f7 : w.frozen? ⟨g, 7, none⟩ = false := hB.frozen 7
  have c8 : w.cell? ⟨g, 8, none⟩ = some (.int .i64 s.a8) := hB.cell 8
  have f8 : w.frozen? ⟨g, 8, none⟩ = false := hB.frozen 8
  have hl := hB.lt
  have HB := Lib.hid hB
  clear hB
  go_enter Tryd.func93, Tryd.ntmps93
  go_wp2
  go_end0
  exact ⟨rfl, (((Mod.refl (fun k => k = g) w)).setCell (p := ⟨g, 7, none⟩) (.inl rfl) _).setCell (p := ⟨g, 8, none⟩) (.inl rfl) _, blk_cast (((HB.out).set_ 7 _).set_ 8 _) (by simp [Sty.cells, put1, Sty.first])⟩

theorem ysize_any (n : Int) (w : World) :
    Calls Tryd.prog 91 #[.int .i64 n] w fun e w' => e = .returned (.bool (decide (0 ≤ n ∧ n ≤ 1073741824))) ∧ w = w' := by
  by_cases h0 : 0 ≤ n
  · by_cases h1 : n ≤ 1073741824
    · go_enter Tryd.func91, Tryd.ntmps91
      go_wp2
      go_ret
      exact ⟨retb (by simp <;> omega), rfl⟩
    · go_enter Tryd.func91, Tryd.ntmps91
      go_wp2
      go_ret
      exact ⟨retb (by simp <;> omega), rfl⟩
  · go_enter Tryd.func91, Tryd.ntmps91
    go_wp2
    go_ret
    exact ⟨retb (by simp <;> omega), rfl⟩

set_option maxHeartbeats 1000000 in
theorem yvalid0 (s : Sty) (w : World) :
    Calls Tryd.prog 72 #[.agg s.cells] w fun e w' => e = .returned (.bool (vld1 0 s)) ∧ Below w.heap.size w w' := by
  unfold Sty.cells vld1
  go_enter Tryd.func72, Tryd.ntmps72
  go_wp2
  go_ret
  exact ⟨rfl, below_alloc _ _⟩

set_option maxHeartbeats 1000000 in
theorem yvalid1 (s : Sty) (w : World) :
    Calls Tryd.prog 75 #[.agg s.cells] w fun e w' => e = .returned (.bool (vld1 1 s)) ∧ Below w.heap.size w w' := by
  unfold Sty.cells vld1
  go_enter Tryd.func75, Tryd.ntmps75
  go_wp2
  go_ret
  exact ⟨rfl, below_alloc _ _⟩

set_option maxHeartbeats 1000000 in
theorem yvalid2 (s : Sty) (w : World) :
    Calls Tryd.prog 78 #[.agg s.cells] w fun e w' => e = .returned (.bool (vld1 2 s)) ∧ Below w.heap.size w w' := by
  unfold Sty.cells vld1
  go_enter Tryd.func78, Tryd.ntmps78
  go_wp2
  go_ret
  exact ⟨rfl, below_alloc _ _⟩

set_option maxHeartbeats 1000000 in
theorem yvalid3 (s : Sty) (w : World) :
    Calls Tryd.prog 81 #[.agg s.cells] w fun e w' => e = .returned (.bool (vld1 3 s)) ∧ Below w.heap.size w w' := by
  unfold Sty.cells vld1
  go_enter Tryd.func81, Tryd.ntmps81
  go_wp2
  go_ret
  exact ⟨rfl, below_alloc _ _⟩

set_option maxHeartbeats 1000000 in
theorem yvalid4 (s : Sty) (w : World) :
    Calls Tryd.prog 84 #[.agg s.cells] w fun e w' => e = .returned (.bool (vld1 4 s)) ∧ Below w.heap.size w w' := by
  unfold Sty.cells vld1
  by_cases h0 : 0 ≤ s.a4
  · by_cases h1 : s.a4 ≤ 64
    · go_enter Tryd.func84, Tryd.ntmps84
      go_wp2
      go_ret
      exact ⟨retb (by first | (rw [decide_eq_true (by omega)]; done) | (rw [decide_eq_false (by omega)]; done) | (simp <;> omega)), below_alloc _ _⟩
    · go_enter Tryd.func84, Tryd.ntmps84
      go_wp2
      go_ret
      exact ⟨retb (by first | (rw [decide_eq_true (by omega)]; done) | (rw [decide_eq_false (by omega)]; done) | (simp <;> omega)), below_alloc _ _⟩
  · go_enter Tryd.func84, Tryd.ntmps84
    go_wp2
    go_ret
    exact ⟨retb (by first | (rw [decide_eq_true (by omega)]; done) | (rw [decide_eq_false (by omega)]; done) | (simp <;> omega)), below_alloc _ _⟩

set_option maxHeartbeats 1000000 in
theorem yvalid5 (s : Sty) (w : World) :
    Calls Tryd.prog 87 #[.agg s.cells] w fun e w' => e = .returned (.bool (vld1 5 s)) ∧ Below w.heap.size w w' := by
  unfold Sty.cells vld1
  by_cases h0 : 0 ≤ s.a5
  · by_cases h1 : s.a5 < 64
    · go_enter Tryd.func87, Tryd.ntmps87
      go_wp2
      go_ret
      exact ⟨retb (by first | (rw [decide_eq_true (by omega)]; done) | (rw [decide_eq_false (by omega)]; done) | (simp <;> omega)), below_alloc _ _⟩
    · go_enter Tryd.func87, Tryd.ntmps87
      go_wp2
      go_ret
      exact ⟨retb (by first | (rw [decide_eq_true (by omega)]; done) | (rw [decide_eq_false (by omega)]; done) | (simp <;> omega)), below_alloc _ _⟩
  · go_enter Tryd.func87, Tryd.ntmps87
    go_wp2
    go_ret
    exact ⟨retb (by first | (rw [decide_eq_true (by omega)]; done) | (rw [decide_eq_false (by omega)]; done) | (simp <;> omega)), below_alloc _ _⟩

set_option maxHeartbeats 1000000 in
theorem yvalid6 (s : Sty) (w : World) :
    Calls Tryd.prog 90 #[.agg s.cells] w fun e w' => e = .returned (.bool (vld1 6 s)) ∧ Below w.heap.size w w' := by
  have C := Lib.hid (ysize_any s.a6)
  unfold Sty.cells vld1
  obtain ⟨b, hb⟩ : ∃ b, decide (0 ≤ s.a6 ∧ s.a6 ≤ 1073741824) = b := ⟨_, rfl⟩
  simp only [hb] at C ⊢
  clear hb
  go_enter Tryd.func90, Tryd.ntmps90
  go_wp2_with fail
  refine (C.out _).mono ?_
  rintro e w1 ⟨rfl, rfl⟩
  go_wp2_with fail
  go_ret
  exact ⟨rfl, below_alloc _ _⟩

set_option maxHeartbeats 1000000 in
theorem yvalid7 (s : Sty) (w : World) :
    Calls Tryd.prog 94 #[.agg s.cells] w fun e w' => e = .returned (.bool (vld1 7 s)) ∧ Below w.heap.size w w' := by
  have C := Lib.hid (ysize_any s.a8)
  have e0 : vld1 7 s = (decide (s.a7 ≤ 2) && decide (0 ≤ s.a8 ∧ s.a8 ≤ 1073741824)) := by unfold vld1; simp only [dec_and]
  rw [e0]
  clear e0
  unfold Sty.cells
  obtain ⟨b, hb⟩ : ∃ b, decide (0 ≤ s.a8 ∧ s.a8 ≤ 1073741824) = b := ⟨_, rfl⟩
  rw [hb] at C ⊢
  clear hb
  by_cases h0 : s.a7 ≤ 2
  · go_enter Tryd.func94, Tryd.ntmps94
    go_wp2_with fail
    refine (C.out _).mono ?_
    rintro e w1 ⟨rfl, rfl⟩
    go_wp2_with fail
    go_ret
    exact ⟨retb (by rw [decide_eq_true (by omega)]; rfl), below_alloc _ _⟩
  · go_enter Tryd.func94, Tryd.ntmps94
    go_wp2_with fail
    go_ret
    exact ⟨retb (by rw [decide_eq_false (by omega)]; rfl), below_alloc _ _⟩


end Go.Proofs.YtgpobhnonjdamaaDoor
