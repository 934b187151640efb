/- Contracts of layers below. -/
import Derived.Test.YtmceblkjbpbcoaaGreatDoorPRowF
import Derived.Test.YtmceblkjbpbcoaaGreatDoorPWhMath
import Derived.Test.YtmceblkjbpbcoaaGreatDoorPY5
import Derived.Test.YtmceblkjbpbcoaaGreatDoorPApG
import Derived.Test.YtmceblkjbpbcoaaGreatDoorPCMath
namespace Go.Proofs.YtmceblkjbpbcoaaGreatDoor
set_option maxRecDepth 100000
set_option maxHeartbeats 4000000
open Go.ChangeShapes Go.WideShapes Go.ChangeAt Go.RowKit
section
open Wh
def chA (x : Cr) : Array Value := #[.int .i32 x.r, .int .i64 x.node, .int .i64 x.at_, .int .i64 x.n, .int .u8 x.kind]
def cwA (x : Cw) : Array Value := #[.int .i32 x.c.r, .int .i64 x.c.node, .int .i64 x.c.at_, .int .i64 x.c.n, .int .u8 x.c.kind, .int .u8 x.w]
def zCr : Cr := ⟨0, 0, 0, 0, 0⟩
def zCw : Cw := ⟨zCr, 0⟩
theorem uC : Tryz.prog.underlying 52 = some (.struct (Tryz.prog.fieldsOf 52)) := by kernel_rfl
theorem iC (x : Cr) : (Tryz.prog.info? 52).map (·.size) = some (chA x).size := by kernel_rfl
theorem oneC (x : Cr) : (chA x).all (·.oneCell') = true := by kernel_rfl
theorem bsC (x : Cr) (w : World) : (Instr.buildSlice 32 1 #[(0, .agg (chA x))]).run Tryz.prog w = .ok (.slice (some ⟨w.heap.size, 0, none⟩) 1 1) (w.alloc (.cells (chA x) 52)) := by kernel_rfl
theorem alC (w : World) : (Instr.alloc 52 true (.tuple #[])).run Tryz.prog w = .ok (.pointer (some ⟨w.heap.size, 0, none⟩)) (w.alloc (.cells (chA zCr) 52)) := by kernel_rfl
theorem bxC (x : Cr) (w : World) : (Instr.box 52 (.agg (chA x))).run Tryz.prog w = .ok (.pointer (some ⟨w.heap.size, 0, none⟩)) (w.alloc (.cells (chA x) 52)) := by kernel_rfl
section
variable {ops : Array Oper} {Q : Exit -> Act -> World -> Prop} {a : Act} {w : World} {rest : List Oper} {o o1 o2 : Oper}
theorem rdC (x : Operand) (ho : o.op = .load 52 x) (p : Addr) (hx : a.eval x = .pointer (some p)) (s : Cr) (hL : qar w p (chA s)) : (execOp a.eval o).run Tryz.prog w = .ok (.value (.agg (chA s))) w := qat 52 x ho p hx (chA s) _ hL uC rfl (iC s)
theorem ldC (hg : o.guard = none) (x : Operand) (ho : o.op = .load 52 x) (p : Addr) (hx : a.eval x = .pointer (some p)) (s : Cr) (hL : qar w p (chA s))
 (h : wpList Tryz.prog ops Q rest (a.put o.dst (.agg (chA s))) w) : wpList Tryz.prog ops Q (o :: rest) a w := qan hg 52 x ho p hx (chA s) _ hL uC rfl (iC s) h
theorem alCV (hg : o.guard = none) (ho : o.op = .alloc 52) (h : ∀ w', Below w.heap.size w w' -> Blk w' w.heap.size 52 (chA zCr) -> wpList Tryz.prog ops Q rest (a.put o.dst (.pointer (some ⟨w.heap.size, 0, none⟩))) w') : wpList Tryz.prog ops Q (o :: rest) a w :=
 qao hg 52 ho _ alC h
theorem bxCV (hg : o.guard = none) (x : Operand) (ho : o.op = .box 52 x) (s : Cr) (hx : a.eval x = .agg (chA s)) (h : ∀ w', Below w.heap.size w w' -> Blk w' w.heap.size 52 (chA s) -> wpList Tryz.prog ops Q rest (a.put o.dst (.pointer (some ⟨w.heap.size, 0, none⟩))) w') : wpList Tryz.prog ops Q (o :: rest) a w :=
 qaq hg 52 x ho (chA s) hx (bxC s) h
theorem stC (hg : o.guard = none) (x y : Operand) (ho : o.op = .store 52 x y) (hd : o.dst = none) (g : Nat) (hx : a.eval x = .pointer (some ⟨g, 0, none⟩)) (s : Cr) (hy : a.eval y = .agg (chA s)) {t : TypeId} (old : Cr) (hB : Blk w g t (chA old))
 (h : ∀ w', Mod (fun k => k = g) w w' -> Blk w' g t (chA s) -> wpList Tryz.prog ops Q rest a w') : wpList Tryz.prog ops Q (o :: rest) a w :=
 qah hg 52 x y ho hd g hx (chA s) hy t (chA old) hB (iC s) rfl (oneC s) h
theorem nwC (hg1 : o1.guard = none) (hg2 : o2.guard = none) (D : Tmp) (hd1 : o1.dst = some D) (ho1 : o1.op = .alloc 52) (y : Operand) (ho2 : o2.op = .store 52 (.tmp D) y) (hd2 : o2.dst = none)
 (s : Cr) (hx : ∀ v, (a.put (some D) v).eval (.tmp D) = v) (hy : ∀ v, (a.put (some D) v).eval y = .agg (chA s))
 (h : ∀ w', Below w.heap.size w w' -> Blk w' w.heap.size 52 (chA s) -> wpList Tryz.prog ops Q rest (a.put (some D) (.pointer (some ⟨w.heap.size, 0, none⟩))) w') : wpList Tryz.prog ops Q (o1 :: o2 :: rest) a w :=
 qab hg1 hg2 52 D hd1 ho1 y ho2 hd2 _ alC (chA s) hx hy (iC s) rfl (oneC s) h
end
def RwC (w : World) (v : Value) (l : List Cr) : Prop := qa5 5 (fun _ => False) w v (l.map fun s => (chA s).toList)
theorem RwC.below {w w' : World} {v : Value} {l : List Cr} (h : RwC w v l) (b : Below w.heap.size w w') : RwC w' v l := qa5.below h b
theorem RwC.form {w : World} {v : Value} {l : List Cr} (h : RwC w v l) : ∃ A c, v = .slice A l.length c := by
 have := qa5.form h
 rwa [xao] at this
theorem RwC.get {w wx : World} {v : Value} {l : List Cr} (h : RwC w v l) (b : Below w.heap.size w wx) {i : Nat} {s : Cr} (hi : l[i]? = some s) :
 ∃ a cap o, v = .slice (some a) l.length cap /\ a.block < w.heap.size /\ a.add (i * 5) = ⟨a.block, o, none⟩ /\ qar wx ⟨a.block, o, none⟩ (chA s) := by
 obtain ⟨a, cap, o, hv, hb, _, ha, hc⟩ := qa5.get h b (x := (chA s).toList) (by rw [xan, hi]; rfl) (by simp [chA])
 rw [xao] at hv
 exact ⟨a, cap, o, hv, hb, ha, qdq rfl hc⟩
def qcj (l : List Cr) : List Value := (l.map fun s => (chA s).toList).flatten
theorem qok (l : List Cr) (s : Cr) : qcj (l ++ [s]) = qcj l ++ (chA s).toList := by simp [qcj]
theorem qgi (l : List Cr) : (qcj l).length = l.length * 5 := by
 induction l with
 | nil => rfl
 | cons x l ih =>
   have : qcj (x :: l) = (chA x).toList ++ qcj l := rfl
   rw [this, List.length_append, ih, List.length_cons]; show 5 + _ = _; omega
theorem qzg {w : World} {base n : Nat} {v : Value} {l : List Cr} (h : w.ownsRow base 52 5 v n (qcj l)) (hn : l.length = n) : RwC w v l := by
 have h2 : qa5 5 (fun b => b < base) w v (l.map fun s => (chA s).toList) := qa5.of_own h rfl (by rw [xao]; exact hn) (fun x hx => by
  obtain ⟨s, _, rfl⟩ := List.mem_map.1 hx
  rfl)
 exact qa5.mono (T := fun _ => False) h2 fun _ _ h => h.elim
theorem uW : Tryz.prog.underlying 116 = some (.struct (Tryz.prog.fieldsOf 116)) := by kernel_rfl
theorem iW (x : Cw) : (Tryz.prog.info? 116).map (·.size) = some (cwA x).size := by kernel_rfl
theorem oneW (x : Cw) : (cwA x).all (·.oneCell') = true := by kernel_rfl
theorem elmW : Elm Tryz.prog 104 116 6 48 := ⟨Tryz.underlying104, ⟨.agg (cwA zCw), by kernel_rfl, rfl⟩, by decide, by decide⟩
theorem bsW (x : Cw) (w : World) : (Instr.buildSlice 104 1 #[(0, .agg (cwA x))]).run Tryz.prog w = .ok (.slice (some ⟨w.heap.size, 0, none⟩) 1 1) (w.alloc (.cells (cwA x) 116)) := by kernel_rfl
theorem alW (w : World) : (Instr.alloc 116 true (.tuple #[])).run Tryz.prog w = .ok (.pointer (some ⟨w.heap.size, 0, none⟩)) (w.alloc (.cells (cwA zCw) 116)) := by kernel_rfl
theorem bxW (x : Cw) (w : World) : (Instr.box 116 (.agg (cwA x))).run Tryz.prog w = .ok (.pointer (some ⟨w.heap.size, 0, none⟩)) (w.alloc (.cells (cwA x) 116)) := by kernel_rfl
section
variable {ops : Array Oper} {Q : Exit -> Act -> World -> Prop} {a : Act} {w : World} {rest : List Oper} {o o1 o2 : Oper}
theorem rdW (x : Operand) (ho : o.op = .load 116 x) (p : Addr) (hx : a.eval x = .pointer (some p)) (s : Cw) (hL : qar w p (cwA s)) : (execOp a.eval o).run Tryz.prog w = .ok (.value (.agg (cwA s))) w := qat 116 x ho p hx (cwA s) _ hL uW rfl (iW s)
theorem ldW (hg : o.guard = none) (x : Operand) (ho : o.op = .load 116 x) (p : Addr) (hx : a.eval x = .pointer (some p)) (s : Cw) (hL : qar w p (cwA s))
 (h : wpList Tryz.prog ops Q rest (a.put o.dst (.agg (cwA s))) w) : wpList Tryz.prog ops Q (o :: rest) a w := qan hg 116 x ho p hx (cwA s) _ hL uW rfl (iW s) h
theorem qd9 (hw : Region.wanted o (yielded ops a.tmps) = true) (x : Operand) (ho : o.op = .load 116 x) (p : Addr) (hx : a.eval x = .pointer (some p)) (s : Cw) (hL : qar w p (cwA s))
 (h : wpList Tryz.prog ops Q rest (a.put o.dst (.agg (cwA s))) w) : wpList Tryz.prog ops Q (o :: rest) a w := qam hw _ rfl _ _ (rdW x ho p hx s hL) h
theorem alWV (hg : o.guard = none) (ho : o.op = .alloc 116) (h : ∀ w', Below w.heap.size w w' -> Blk w' w.heap.size 116 (cwA zCw) -> wpList Tryz.prog ops Q rest (a.put o.dst (.pointer (some ⟨w.heap.size, 0, none⟩))) w') : wpList Tryz.prog ops Q (o :: rest) a w :=
 qao hg 116 ho _ alW h
theorem qfa (hg : o.guard = none) (x : Operand) (ho : o.op = .box 116 x) (s : Cw) (hx : a.eval x = .agg (cwA s)) (h : ∀ w', Below w.heap.size w w' -> Blk w' w.heap.size 116 (cwA s) -> wpList Tryz.prog ops Q rest (a.put o.dst (.pointer (some ⟨w.heap.size, 0, none⟩))) w') : wpList Tryz.prog ops Q (o :: rest) a w :=
 qaq hg 116 x ho (cwA s) hx (bxW s) h
theorem stW (hg : o.guard = none) (x y : Operand) (ho : o.op = .store 116 x y) (hd : o.dst = none) (g : Nat) (hx : a.eval x = .pointer (some ⟨g, 0, none⟩)) (s : Cw) (hy : a.eval y = .agg (cwA s)) {t : TypeId} (old : Cw) (hB : Blk w g t (cwA old))
 (h : ∀ w', Mod (fun k => k = g) w w' -> Blk w' g t (cwA s) -> wpList Tryz.prog ops Q rest a w') : wpList Tryz.prog ops Q (o :: rest) a w :=
 qah hg 116 x y ho hd g hx (cwA s) hy t (cwA old) hB (iW s) rfl (oneW s) h
theorem apW (hg1 : o1.guard = none) (x : Operand) (ho1 : o1.op = .buildSlice 104 1 #[(0, x)]) (D : Tmp) (hd1 : o1.dst = some D)
 (hg2 : o2.guard = none) (sl : Operand) (ho2 : o2.op = .call { callee := .builtin .append, args := #[sl, .tmp D], argTypes := #[104, 104] }) (s : Cw) (hx : a.eval x = .agg (cwA s))
 (v : Value) (hs : ∀ u, (a.put (some D) u).eval sl = v) (hD : ∀ u, (a.put (some D) u).eval (.tmp D) = u) (base n : Nat) (xs : List Value) (hown : w.ownsRow base 116 6 v n xs) (hn : n < 4194304) (hbase : base <= w.heap.size)
 (h : ∀ u v' w', w'.ownsRow base 116 6 v' (n + 1) (xs ++ (cwA s).toList) -> Below base w w' -> wpList Tryz.prog ops Q rest ((a.put (some D) u).put o2.dst v') w') : wpList Tryz.prog ops Q (o1 :: o2 :: rest) a w :=
 apG elmW hg1 x ho1 D hd1 hg2 sl ho2 (.agg (cwA s)) (cwA s) hx rfl (oneW s) (bsW s) v hs hD base n xs hown hn hbase h
end
def RwW (w : World) (v : Value) (l : List Cw) : Prop := qa5 6 (fun _ => False) w v (l.map fun s => (cwA s).toList)
theorem RwW.below {w w' : World} {v : Value} {l : List Cw} (h : RwW w v l) (b : Below w.heap.size w w') : RwW w' v l := qa5.below h b
theorem RwW.form {w : World} {v : Value} {l : List Cw} (h : RwW w v l) : ∃ A c, v = .slice A l.length c := by
 have := qa5.form h
 rwa [xao] at this
theorem RwW.get {w wx : World} {v : Value} {l : List Cw} (h : RwW w v l) (b : Below w.heap.size w wx) {i : Nat} {s : Cw} (hi : l[i]? = some s) :
 ∃ a cap o, v = .slice (some a) l.length cap /\ a.block < w.heap.size /\ a.add (i * 6) = ⟨a.block, o, none⟩ /\ qar wx ⟨a.block, o, none⟩ (cwA s) := by
 obtain ⟨a, cap, o, hv, hb, _, ha, hc⟩ := qa5.get h b (x := (cwA s).toList) (by rw [xan, hi]; rfl) (by simp [cwA])
 rw [xao] at hv
 exact ⟨a, cap, o, hv, hb, ha, qdq rfl hc⟩
def qcx (l : List Cw) : List Value := (l.map fun s => (cwA s).toList).flatten
theorem qoj (l : List Cw) (s : Cw) : qcx (l ++ [s]) = qcx l ++ (cwA s).toList := by simp [qcx]
theorem qgh (l : List Cw) : (qcx l).length = l.length * 6 := by
 induction l with
 | nil => rfl
 | cons x l ih =>
   have : qcx (x :: l) = (cwA x).toList ++ qcx l := rfl
   rw [this, List.length_append, ih, List.length_cons]; show 6 + _ = _; omega
theorem qzf {w : World} {base n : Nat} {v : Value} {l : List Cw} (h : w.ownsRow base 116 6 v n (qcx l)) (hn : l.length = n) : RwW w v l := by
 have h2 : qa5 6 (fun b => b < base) w v (l.map fun s => (cwA s).toList) := qa5.of_own h rfl (by rw [xao]; exact hn) (fun x hx => by
  obtain ⟨s, _, rfl⟩ := List.mem_map.1 hx
  rfl)
 exact qa5.mono (T := fun _ => False) h2 fun _ _ h => h.elim
end
namespace Wl
open Wh
structure Mk (P : Prop) : Prop where
 out : P
theorem qpy (k : Int) (w : World) :
 Calls Tryz.prog 63 #[.int .u8 k] w fun e w' => e = .returned (.bool (decide (k = 0) || decide (k = 6) || decide (k = 5))) /\ w = w' := by
 by_cases h0 : k = 0
 ·subst h0
  go_enter Tryz.func63, Tryz.ntmps63
  go_wp2
  go_ret
  exact ⟨qak (by simp), rfl⟩
 ·by_cases h6 : k = 6
  ·subst h6
   go_enter Tryz.func63, Tryz.ntmps63
   go_wp2
   go_ret
   exact ⟨qak (by simp), rfl⟩
  ·have e0 : (k == 0) = false := by simpa using h0
   have e6 : (k == 6) = false := by simpa using h6
   by_cases h5 : k = 5
   ·subst h5
    go_enter Tryz.func63, Tryz.ntmps63
    go_wp2
    go_ret
    exact ⟨qak (by simp), rfl⟩
   ·have e5 : (k == 5) = false := by simpa using h5
    go_enter Tryz.func63, Tryz.ntmps63
    go_wp2
    go_ret
    exact ⟨qak (by simp [h0, h5, h6]), rfl⟩
theorem qnd (s : Sty) (w : World) :
 Calls Tryz.prog 116 #[.agg s.cells] w fun e w' => e = .returned (.bool (qcz s.a0)) /\ Below w.heap.size w w' := by
 unfold Sty.cells
 obtain ⟨x, hx⟩ : ∃ x, s.a0 = x := ⟨_, rfl⟩
 rw [hx]
 clear hx
 by_cases h0 : x = 0
 ·subst h0
  go_enter Tryz.func116, Tryz.ntmps116
  go_wp2
  go_ret
  exact ⟨qak (by decide), xar _ _⟩
 ·have e0 : (x == 0) = false := by simpa using h0
  by_cases h1 : x = 1
  ·subst h1
   go_enter Tryz.func116, Tryz.ntmps116
   go_wp2
   go_ret
   exact ⟨qak (by decide), xar _ _⟩
  ·have e1 : (x == 1) = false := by simpa using h1
   by_cases h4 : x = 4
   ·subst h4
    go_enter Tryz.func116, Tryz.ntmps116
    go_wp2
    go_ret
    exact ⟨qak (by decide), xar _ _⟩
   ·have e4 : (x == 4) = false := by simpa using h4
    go_enter Tryz.func116, Tryz.ntmps116
    go_wp2
    go_ret
    exact ⟨qak (by simp [qcz, h0, h1, h4]), xar _ _⟩
theorem qbu (x : Cw) (r : Int) (w : World) :
 Calls Tryz.prog 65 #[.agg (cwA x), .int .i32 r] w fun e w' => e = .returned (.bool (isW x r)) /\ Below w.heap.size w w' := by
 obtain ⟨⟨xr, xn, xa, xl, xk⟩, xw⟩ := x
 have hv : isW ⟨⟨xr, xn, xa, xl, xk⟩, xw⟩ r = (decide (xk = 0) && decide (xr = r)) := rfl
 rw [hv]
 clear hv
 unfold cwA
 dsimp only
 by_cases h0 : xk = 0
 ·subst h0
  by_cases hr : xr = r
  ·subst hr
   go_enter Tryz.func65, Tryz.ntmps65
   go_wp2
   go_ret
   exact ⟨qak (by simp), xar _ _⟩
  ·have er : (xr == r) = false := by simpa using hr
   go_enter Tryz.func65, Tryz.ntmps65
   go_wp2
   go_ret
   exact ⟨qak (by simp [hr]), xar _ _⟩
 ·have e0 : (xk == 0) = false := by simpa using h0
  go_enter Tryz.func65, Tryz.ntmps65
  go_wp2
  go_ret
  exact ⟨qak (by simp [h0]), xar _ _⟩
theorem qfd (x : Cw) (w : World) :
 Calls Tryz.prog 68 #[.agg (cwA x)] w fun e w' => e = .returned (.bool (endW x)) /\ Below w.heap.size w w' := by
 have hval : endW x = (isW x 10 || isW x 13) := rfl
 rw [hval]
 clear hval
 obtain ⟨c1, h1⟩ : ∃ q, isW x 10 = q := ⟨_, rfl⟩
 obtain ⟨c2, h2⟩ : ∃ q, isW x 13 = q := ⟨_, rfl⟩
 rw [h1, h2]
 have H1 := xaa h1
 have H2 := xaa h2
 clear h1 h2
 have K0 := Kn.nil w
 have t0 := Below.refl w.heap.size w
 go_enter Tryz.func68, Tryz.ntmps68
 go_wp2_with (first | (refine qfa rfl (.tmp 0) rfl x rfl ?_; intro v1 b1 B1; have K1 := K0.cons b1 B1; have t1 := xaq t0 b1; clear b1 B1) | (refine ldW rfl (.tmp 1) rfl _ rfl x (K1.at_ 0 rfl).lies ?_))
 refine (qbu x 10 _).mono ?_
 rw [H1.out]
 rintro e u2 ⟨rfl, d2⟩
 have K2 := K1.below d2
 have t2 := xaq t1 d2
 cases c1
 ·skip
  go_wp2_with (first | (refine qd9 (by kernel_rfl) (.tmp 1) rfl _ rfl x (K2.at_ 0 rfl).lies ?_))
  refine (qbu x 13 _).mono ?_
  rw [H2.out]
  rintro e u3 ⟨rfl, d3⟩
  have K3 := K2.below d3
  have t3 := xaq t2 d3
  cases c2
  ·skip
   go_wp2_with fail
   go_ret
   exact ⟨qak (by simp), t3⟩
  ·skip
   go_wp2_with fail
   go_ret
   exact ⟨qak (by simp), t3⟩
 ·skip
  go_wp2_with fail
  go_ret
  exact ⟨qak (by simp), t2⟩
theorem qb2 (x : Cw) (w : World) :
 Calls Tryz.prog 70 #[.agg (cwA x)] w fun e w' => e = .returned (.bool (softW x)) /\ Below w.heap.size w w' := by
 have hval : softW x = (endW x && (decide (x.w = 0) || decide (x.w = 1))) := rfl
 rw [hval]
 clear hval
 obtain ⟨c1, h1⟩ : ∃ c, endW x = c := ⟨_, rfl⟩
 rw [h1]
 have H1 := xaa h1
 obtain ⟨z, hz⟩ : ∃ z, x.w = z := ⟨_, rfl⟩
 rw [hz]
 have HZ := xaa hz
 clear h1 hz
 have K0 := Kn.nil w
 have t0 := Below.refl w.heap.size w
 go_enter Tryz.func70, Tryz.ntmps70
 go_wp2_with (first | (refine qfa rfl (.tmp 0) rfl x rfl ?_; intro v1 b1 B1; have K1 := K0.cons b1 B1; have t1 := xaq t0 b1; clear b1 B1) | (refine ldW rfl (.tmp 1) rfl _ rfl x (K1.at_ 0 rfl).lies ?_))
 refine (qfd x _).mono ?_
 rw [H1.out]
 rintro e u2 ⟨rfl, d2⟩
 have K2 := K1.below d2
 have t2 := xaq t1 d2
 have c5 : u2.cell? ⟨w.heap.size, 5, none⟩ = some (.int .u8 z) := by rw [(K2.at_ 0 rfl).cell 5, <- HZ.out]; rfl
 cases c1
 ·go_wp2_with fail
  go_ret
  exact ⟨qak (by simp), t2⟩
 ·by_cases h0 : z = 0
  ·subst h0
   go_wp2_with fail
   go_ret
   exact ⟨qak (by simp), t2⟩
  ·have e0 : (z == 0) = false := by simpa using h0
   by_cases h1 : z = 1
   ·subst h1
    go_wp2_with fail
    go_ret
    exact ⟨qak (by simp), t2⟩
   ·have e1 : (z == 1) = false := by simpa using h1
    go_wp2_with fail
    go_ret
    exact ⟨qak (by simp [h0, h1]), t2⟩
theorem qfu (x : Cw) (w : World) :
 Calls Tryz.prog 72 #[.agg (cwA x)] w fun e w' => e = .returned (.bool (hardW x)) /\ Below w.heap.size w w' := by
 have hval : hardW x = (endW x && !softW x) := rfl
 rw [hval]
 clear hval
 obtain ⟨c1, h1⟩ : ∃ q, endW x = q := ⟨_, rfl⟩
 obtain ⟨c2, h2⟩ : ∃ q, softW x = q := ⟨_, rfl⟩
 rw [h1, h2]
 have H1 := xaa h1
 have H2 := xaa h2
 clear h1 h2
 have K0 := Kn.nil w
 have t0 := Below.refl w.heap.size w
 go_enter Tryz.func72, Tryz.ntmps72
 go_wp2_with (first | (refine qfa rfl (.tmp 0) rfl x rfl ?_; intro v1 b1 B1; have K1 := K0.cons b1 B1; have t1 := xaq t0 b1; clear b1 B1) | (refine ldW rfl (.tmp 1) rfl _ rfl x (K1.at_ 0 rfl).lies ?_))
 refine (qfd x _).mono ?_
 rw [H1.out]
 rintro e u2 ⟨rfl, d2⟩
 have K2 := K1.below d2
 have t2 := xaq t1 d2
 cases c1
 ·skip
  go_wp2_with fail
  go_ret
  exact ⟨qak (by simp), t2⟩
 ·skip
  go_wp2_with (first | (refine qd9 (by kernel_rfl) (.tmp 1) rfl _ rfl x (K2.at_ 0 rfl).lies ?_))
  refine (qb2 x _).mono ?_
  rw [H2.out]
  rintro e u3 ⟨rfl, d3⟩
  have K3 := K2.below d3
  have t3 := xaq t2 d3
  cases c2
  ·skip
   go_wp2_with fail
   go_ret
   exact ⟨qak (by simp), t3⟩
  ·skip
   go_wp2_with fail
   go_ret
   exact ⟨qak (by simp), t3⟩
theorem qc9 (x : Cw) (r : Int) (w : World) :
 Calls Tryz.prog 78 #[.agg (cwA x), .int .i32 r] w fun e w' => e = .returned (.bool (colW x r)) /\ Below w.heap.size w w' := by
 have hval : colW x r = (isW x r && qcz x.w) := rfl
 rw [hval]
 clear hval
 obtain ⟨c1, h1⟩ : ∃ c, isW x r = c := ⟨_, rfl⟩
 rw [h1]
 have H1 := xaa h1
 obtain ⟨z, hz⟩ : ∃ z, x.w = z := ⟨_, rfl⟩
 rw [hz]
 have HZ := xaa hz
 clear h1 hz
 have K0 := Kn.nil w
 have t0 := Below.refl w.heap.size w
 go_enter Tryz.func78, Tryz.ntmps78
 go_wp2_with (first | (refine qfa rfl (.tmp 0) rfl x rfl ?_; intro v1 b1 B1; have K1 := K0.cons b1 B1; have t1 := xaq t0 b1; clear b1 B1) | (refine ldW rfl (.tmp 2) rfl _ rfl x (K1.at_ 0 rfl).lies ?_))
 refine (qbu x r _).mono ?_
 rw [H1.out]
 rintro e u2 ⟨rfl, d2⟩
 have K2 := K1.below d2
 have t2 := xaq t1 d2
 have c5 : u2.cell? ⟨w.heap.size, 5, none⟩ = some (.int .u8 z) := by rw [(K2.at_ 0 rfl).cell 5, <- HZ.out]; rfl
 cases c1
 ·go_wp2_with fail
  go_ret
  exact ⟨qak (by simp), t2⟩
 ·have C := xaa (fun w => qnd ⟨z, 0, 0, 0, 0, 0, 0, 0, 0⟩ w)
  go_wp2_with fail
  refine (C.out _).mono ?_
  rintro e u3 ⟨rfl, d3⟩
  go_wp2_with fail
  go_ret
  exact ⟨qak (by simp), xaq t2 d3⟩
theorem qi7 (x : Cw) (w : World) (hT : Tab w) :
 Calls Tryz.prog 115 #[.agg (cwA x)] w fun e w' => e = .returned (.bool (wideW wideB x)) /\ Below w.heap.size w w' := by
 have hval : wideW wideB x = (decide (x.c.kind = 0) && wideB x.c.r) := rfl
 rw [hval]
 clear hval
 obtain ⟨z, hz⟩ : ∃ z, x.c.kind = z := ⟨_, rfl⟩
 rw [hz]
 have HZ := xaa hz
 obtain ⟨r, hr⟩ : ∃ z, x.c.r = z := ⟨_, rfl⟩
 rw [hr]
 have HR := xaa hr
 obtain ⟨c1, h1⟩ : ∃ c, wideB r = c := ⟨_, rfl⟩
 rw [h1]
 have C := xaa (fun w hT => qvx r w hT c1 h1)
 clear h1 hz hr
 have HT := xaa hT
 clear hT
 by_cases h0 : z = 0
 ·subst h0
  go_enter Tryz.func115, Tryz.ntmps115
  go_wp2_with (refine qfa rfl (.tmp 0) rfl x rfl ?_; intro v1 b1 B1; have c4 : v1.cell? ⟨w.heap.size, 4, none⟩ = some (.int .u8 0) := (B1.cell 4).trans (by (show some (Value.int .u8 x.c.kind) = _; rw [HZ.out])); have c0 : v1.cell? ⟨w.heap.size, 0, none⟩ = some (.int .i32 r) := (B1.cell 0).trans (by (show some (Value.int .i32 x.c.r) = _; rw [HR.out])))
  refine (C.out _ (HT.out.below b1)).mono ?_
  rintro e u3 ⟨rfl, d3⟩
  go_wp2_with fail
  go_ret
  exact ⟨qak (by simp), xaq b1 d3⟩
 ·have e0 : (z == 0) = false := by simpa using h0
  go_enter Tryz.func115, Tryz.ntmps115
  go_wp2_with (refine qfa rfl (.tmp 0) rfl x rfl ?_; intro v1 b1 B1; have c4 : v1.cell? ⟨w.heap.size, 4, none⟩ = some (.int .u8 z) := (B1.cell 4).trans (by (show some (Value.int .u8 x.c.kind) = _; rw [HZ.out])))
  go_ret
  exact ⟨qak (by simp [h0]), b1⟩
theorem qlu (x : Cw) (w : World) :
 Calls Tryz.prog 66 #[.agg (cwA x)] w fun e w' => e = .returned (.bool (whtW x)) /\ Below w.heap.size w w' := by
 have hval : whtW x = (colW x 32 || colW x 9) := rfl
 rw [hval]
 clear hval
 obtain ⟨c1, h1⟩ : ∃ q, colW x 32 = q := ⟨_, rfl⟩
 obtain ⟨c2, h2⟩ : ∃ q, colW x 9 = q := ⟨_, rfl⟩
 rw [h1, h2]
 have H1 := xaa h1
 have H2 := xaa h2
 clear h1 h2
 have K0 := Kn.nil w
 have t0 := Below.refl w.heap.size w
 go_enter Tryz.func66, Tryz.ntmps66
 go_wp2_with (first | (refine qfa rfl (.tmp 0) rfl x rfl ?_; intro v1 b1 B1; have K1 := K0.cons b1 B1; have t1 := xaq t0 b1; clear b1 B1) | (refine ldW rfl (.tmp 1) rfl _ rfl x (K1.at_ 0 rfl).lies ?_))
 refine (qc9 x 32 _).mono ?_
 rw [H1.out]
 rintro e u2 ⟨rfl, d2⟩
 have K2 := K1.below d2
 have t2 := xaq t1 d2
 cases c1
 ·skip
  go_wp2_with (first | (refine qd9 (by kernel_rfl) (.tmp 1) rfl _ rfl x (K2.at_ 0 rfl).lies ?_))
  refine (qc9 x 9 _).mono ?_
  rw [H2.out]
  rintro e u3 ⟨rfl, d3⟩
  have K3 := K2.below d3
  have t3 := xaq t2 d3
  cases c2
  ·skip
   go_wp2_with fail
   go_ret
   exact ⟨qak (by simp), t3⟩
  ·skip
   go_wp2_with fail
   go_ret
   exact ⟨qak (by simp), t3⟩
 ·skip
  go_wp2_with fail
  go_ret
  exact ⟨qak (by simp), t2⟩
theorem g1_any (b c a : Cw) (w : World) :
 Calls Tryz.prog 64 #[.agg (cwA b), .agg (cwA c), .agg (cwA a)] w fun e w' => e = .returned (.bool (g1 b c a)) /\ Below w.heap.size w w' := by
 have hval : g1 b c a = (isW c 13 && isW a 10) := rfl
 rw [hval]
 clear hval
 obtain ⟨c1, h1⟩ : ∃ q, isW c 13 = q := ⟨_, rfl⟩
 obtain ⟨c2, h2⟩ : ∃ q, isW a 10 = q := ⟨_, rfl⟩
 rw [h1, h2]
 have H1 := xaa h1
 have H2 := xaa h2
 clear h1 h2
 have K0 := Kn.nil w
 have t0 := Below.refl w.heap.size w
 go_enter Tryz.func64, Tryz.ntmps64
 go_wp2_with (first | (refine qfa rfl (.tmp 0) rfl b rfl ?_; intro v1 b1 B1; have K1 := K0.cons b1 B1; have t1 := xaq t0 b1; clear b1 B1) | (refine qfa rfl (.tmp 1) rfl c rfl ?_; intro v2 b2 B2; have K2 := K1.cons b2 B2; have t2 := xaq t1 b2; clear b2 B2) | (refine qfa rfl (.tmp 2) rfl a rfl ?_; intro v3 b3 B3; have K3 := K2.cons b3 B3; have t3 := xaq t2 b3; clear b3 B3) | (refine ldW rfl (.tmp 4) rfl _ rfl c (K3.at_ 1 rfl).lies ?_))
 refine (qbu c 13 _).mono ?_
 rw [H1.out]
 rintro e u4 ⟨rfl, d4⟩
 have K4 := K3.below d4
 have t4 := xaq t3 d4
 cases c1
 ·skip
  go_wp2_with fail
  go_ret
  exact ⟨qak (by simp), t4⟩
 ·skip
  go_wp2_with (first | (refine qd9 (by kernel_rfl) (.tmp 5) rfl _ rfl a (K4.at_ 0 rfl).lies ?_))
  refine (qbu a 10 _).mono ?_
  rw [H2.out]
  rintro e u5 ⟨rfl, d5⟩
  have K5 := K4.below d5
  have t5 := xaq t4 d5
  cases c2
  ·skip
   go_wp2_with fail
   go_ret
   exact ⟨qak (by simp), t5⟩
  ·skip
   go_wp2_with fail
   go_ret
   exact ⟨qak (by simp), t5⟩
theorem g2_any (b c a : Cw) (w : World) :
 Calls Tryz.prog 67 #[.agg (cwA b), .agg (cwA c), .agg (cwA a)] w fun e w' => e = .returned (.bool (g2 b c a)) /\ Below w.heap.size w w' := by
 have hval : g2 b c a = (whtW c && (endW b || endW a)) := rfl
 rw [hval]
 clear hval
 obtain ⟨c1, h1⟩ : ∃ q, whtW c = q := ⟨_, rfl⟩
 obtain ⟨c2, h2⟩ : ∃ q, endW b = q := ⟨_, rfl⟩
 obtain ⟨c3, h3⟩ : ∃ q, endW a = q := ⟨_, rfl⟩
 rw [h1, h2, h3]
 have H1 := xaa h1
 have H2 := xaa h2
 have H3 := xaa h3
 clear h1 h2 h3
 have K0 := Kn.nil w
 have t0 := Below.refl w.heap.size w
 go_enter Tryz.func67, Tryz.ntmps67
 go_wp2_with (first | (refine qfa rfl (.tmp 0) rfl b rfl ?_; intro v1 b1 B1; have K1 := K0.cons b1 B1; have t1 := xaq t0 b1; clear b1 B1) | (refine qfa rfl (.tmp 1) rfl c rfl ?_; intro v2 b2 B2; have K2 := K1.cons b2 B2; have t2 := xaq t1 b2; clear b2 B2) | (refine qfa rfl (.tmp 2) rfl a rfl ?_; intro v3 b3 B3; have K3 := K2.cons b3 B3; have t3 := xaq t2 b3; clear b3 B3) | (refine ldW rfl (.tmp 4) rfl _ rfl c (K3.at_ 1 rfl).lies ?_))
 refine (qlu c _).mono ?_
 rw [H1.out]
 rintro e u4 ⟨rfl, d4⟩
 have K4 := K3.below d4
 have t4 := xaq t3 d4
 cases c1
 ·skip
  go_wp2_with fail
  go_ret
  exact ⟨qak (by simp), t4⟩
 ·skip
  go_wp2_with (first | (refine qd9 (by kernel_rfl) (.tmp 3) rfl _ rfl b (K4.at_ 2 rfl).lies ?_))
  refine (qfd b _).mono ?_
  rw [H2.out]
  rintro e u5 ⟨rfl, d5⟩
  have K5 := K4.below d5
  have t5 := xaq t4 d5
  cases c2
  ·skip
   go_wp2_with (first | (refine qd9 (by kernel_rfl) (.tmp 5) rfl _ rfl a (K5.at_ 0 rfl).lies ?_))
   refine (qfd a _).mono ?_
   rw [H3.out]
   rintro e u6 ⟨rfl, d6⟩
   have K6 := K5.below d6
   have t6 := xaq t5 d6
   cases c3
   ·skip
    go_wp2_with fail
    go_ret
    exact ⟨qak (by simp), t6⟩
   ·skip
    go_wp2_with fail
    go_ret
    exact ⟨qak (by simp), t6⟩
  ·skip
   go_wp2_with fail
   go_ret
   exact ⟨qak (by simp), t5⟩
theorem g3_any (b c a : Cw) (w : World) :
 Calls Tryz.prog 69 #[.agg (cwA b), .agg (cwA c), .agg (cwA a)] w fun e w' => e = .returned (.bool (g3 b c a)) /\ Below w.heap.size w w' := by
 have hval : g3 b c a = (softW c && softW b) := rfl
 rw [hval]
 clear hval
 obtain ⟨c1, h1⟩ : ∃ q, softW c = q := ⟨_, rfl⟩
 obtain ⟨c2, h2⟩ : ∃ q, softW b = q := ⟨_, rfl⟩
 rw [h1, h2]
 have H1 := xaa h1
 have H2 := xaa h2
 clear h1 h2
 have K0 := Kn.nil w
 have t0 := Below.refl w.heap.size w
 go_enter Tryz.func69, Tryz.ntmps69
 go_wp2_with (first | (refine qfa rfl (.tmp 0) rfl b rfl ?_; intro v1 b1 B1; have K1 := K0.cons b1 B1; have t1 := xaq t0 b1; clear b1 B1) | (refine qfa rfl (.tmp 1) rfl c rfl ?_; intro v2 b2 B2; have K2 := K1.cons b2 B2; have t2 := xaq t1 b2; clear b2 B2) | (refine qfa rfl (.tmp 2) rfl a rfl ?_; intro v3 b3 B3; have K3 := K2.cons b3 B3; have t3 := xaq t2 b3; clear b3 B3) | (refine ldW rfl (.tmp 4) rfl _ rfl c (K3.at_ 1 rfl).lies ?_))
 refine (qb2 c _).mono ?_
 rw [H1.out]
 rintro e u4 ⟨rfl, d4⟩
 have K4 := K3.below d4
 have t4 := xaq t3 d4
 cases c1
 ·skip
  go_wp2_with fail
  go_ret
  exact ⟨qak (by simp), t4⟩
 ·skip
  go_wp2_with (first | (refine qd9 (by kernel_rfl) (.tmp 3) rfl _ rfl b (K4.at_ 2 rfl).lies ?_))
  refine (qb2 b _).mono ?_
  rw [H2.out]
  rintro e u5 ⟨rfl, d5⟩
  have K5 := K4.below d5
  have t5 := xaq t4 d5
  cases c2
  ·skip
   go_wp2_with fail
   go_ret
   exact ⟨qak (by simp), t5⟩
  ·skip
   go_wp2_with fail
   go_ret
   exact ⟨qak (by simp), t5⟩
theorem g4_any (b c a : Cw) (w : World) :
 Calls Tryz.prog 71 #[.agg (cwA b), .agg (cwA c), .agg (cwA a)] w fun e w' => e = .returned (.bool (g4 b c a)) /\ Below w.heap.size w w' := by
 have hval : g4 b c a = (softW c && (hardW b || hardW a)) := rfl
 rw [hval]
 clear hval
 obtain ⟨c1, h1⟩ : ∃ q, softW c = q := ⟨_, rfl⟩
 obtain ⟨c2, h2⟩ : ∃ q, hardW b = q := ⟨_, rfl⟩
 obtain ⟨c3, h3⟩ : ∃ q, hardW a = q := ⟨_, rfl⟩
 rw [h1, h2, h3]
 have H1 := xaa h1
 have H2 := xaa h2
 have H3 := xaa h3
 clear h1 h2 h3
 have K0 := Kn.nil w
 have t0 := Below.refl w.heap.size w
 go_enter Tryz.func71, Tryz.ntmps71
 go_wp2_with (first | (refine qfa rfl (.tmp 0) rfl b rfl ?_; intro v1 b1 B1; have K1 := K0.cons b1 B1; have t1 := xaq t0 b1; clear b1 B1) | (refine qfa rfl (.tmp 1) rfl c rfl ?_; intro v2 b2 B2; have K2 := K1.cons b2 B2; have t2 := xaq t1 b2; clear b2 B2) | (refine qfa rfl (.tmp 2) rfl a rfl ?_; intro v3 b3 B3; have K3 := K2.cons b3 B3; have t3 := xaq t2 b3; clear b3 B3) | (refine ldW rfl (.tmp 4) rfl _ rfl c (K3.at_ 1 rfl).lies ?_))
 refine (qb2 c _).mono ?_
 rw [H1.out]
 rintro e u4 ⟨rfl, d4⟩
 have K4 := K3.below d4
 have t4 := xaq t3 d4
 cases c1
 ·skip
  go_wp2_with fail
  go_ret
  exact ⟨qak (by simp), t4⟩
 ·skip
  go_wp2_with (first | (refine qd9 (by kernel_rfl) (.tmp 3) rfl _ rfl b (K4.at_ 2 rfl).lies ?_))
  refine (qfu b _).mono ?_
  rw [H2.out]
  rintro e u5 ⟨rfl, d5⟩
  have K5 := K4.below d5
  have t5 := xaq t4 d5
  cases c2
  ·skip
   go_wp2_with (first | (refine qd9 (by kernel_rfl) (.tmp 5) rfl _ rfl a (K5.at_ 0 rfl).lies ?_))
   refine (qfu a _).mono ?_
   rw [H3.out]
   rintro e u6 ⟨rfl, d6⟩
   have K6 := K5.below d6
   have t6 := xaq t5 d6
   cases c3
   ·skip
    go_wp2_with fail
    go_ret
    exact ⟨qak (by simp), t6⟩
   ·skip
    go_wp2_with fail
    go_ret
    exact ⟨qak (by simp), t6⟩
  ·skip
   go_wp2_with fail
   go_ret
   exact ⟨qak (by simp), t5⟩
theorem g5_any (b c a : Cw) (w : World) (hT : Tab w) :
 Calls Tryz.prog 73 #[.agg (cwA b), .agg (cwA c), .agg (cwA a)] w fun e w' => e = .returned (.bool (g5 wideB b c a)) /\ Below w.heap.size w w' := by
 have hval : g5 wideB b c a = (softW c && (isW b 8203 || isW a 8203 || (wideW wideB b && wideW wideB a))) := rfl
 rw [hval]
 clear hval
 obtain ⟨c1, h1⟩ : ∃ q, softW c = q := ⟨_, rfl⟩
 obtain ⟨c2, h2⟩ : ∃ q, isW b 8203 = q := ⟨_, rfl⟩
 obtain ⟨c3, h3⟩ : ∃ q, isW a 8203 = q := ⟨_, rfl⟩
 obtain ⟨c4, h4⟩ : ∃ q, wideW wideB b = q := ⟨_, rfl⟩
 obtain ⟨c5, h5⟩ : ∃ q, wideW wideB a = q := ⟨_, rfl⟩
 rw [h1, h2, h3, h4, h5]
 have H1 := xaa h1
 have H2 := xaa h2
 have H3 := xaa h3
 have H4 := xaa h4
 have H5 := xaa h5
 clear h1 h2 h3 h4 h5
 have K0 := Kn.nil w
 have t0 := Below.refl w.heap.size w
 go_enter Tryz.func73, Tryz.ntmps73
 go_wp2_with (first | (refine qfa rfl (.tmp 0) rfl b rfl ?_; intro v1 b1 B1; have K1 := K0.cons b1 B1; have t1 := xaq t0 b1; clear b1 B1) | (refine qfa rfl (.tmp 1) rfl c rfl ?_; intro v2 b2 B2; have K2 := K1.cons b2 B2; have t2 := xaq t1 b2; clear b2 B2) | (refine qfa rfl (.tmp 2) rfl a rfl ?_; intro v3 b3 B3; have K3 := K2.cons b3 B3; have t3 := xaq t2 b3; clear b3 B3) | (refine ldW rfl (.tmp 4) rfl _ rfl c (K3.at_ 1 rfl).lies ?_))
 refine (qb2 c _).mono ?_
 rw [H1.out]
 rintro e u4 ⟨rfl, d4⟩
 have K4 := K3.below d4
 have t4 := xaq t3 d4
 cases c1
 ·skip
  go_wp2_with fail
  go_ret
  exact ⟨qak (by simp), t4⟩
 ·skip
  go_wp2_with (first | (refine qd9 (by kernel_rfl) (.tmp 3) rfl _ rfl b (K4.at_ 2 rfl).lies ?_))
  refine (qbu b 8203 _).mono ?_
  rw [H2.out]
  rintro e u5 ⟨rfl, d5⟩
  have K5 := K4.below d5
  have t5 := xaq t4 d5
  cases c2
  ·skip
   go_wp2_with (first | (refine qd9 (by kernel_rfl) (.tmp 5) rfl _ rfl a (K5.at_ 0 rfl).lies ?_))
   refine (qbu a 8203 _).mono ?_
   rw [H3.out]
   rintro e u6 ⟨rfl, d6⟩
   have K6 := K5.below d6
   have t6 := xaq t5 d6
   cases c3
   ·skip
    go_wp2_with (first | (refine qd9 (by kernel_rfl) (.tmp 3) rfl _ rfl b (K6.at_ 2 rfl).lies ?_))
    refine (qi7 b _ (hT.below t6)).mono ?_
    rw [H4.out]
    rintro e u7 ⟨rfl, d7⟩
    have K7 := K6.below d7
    have t7 := xaq t6 d7
    cases c4
    ·skip
     go_wp2_with fail
     go_ret
     exact ⟨qak (by simp), t7⟩
    ·skip
     go_wp2_with (first | (refine qd9 (by kernel_rfl) (.tmp 5) rfl _ rfl a (K7.at_ 0 rfl).lies ?_))
     refine (qi7 a _ (hT.below t7)).mono ?_
     rw [H5.out]
     rintro e u8 ⟨rfl, d8⟩
     have K8 := K7.below d8
     have t8 := xaq t7 d8
     cases c5
     ·skip
      go_wp2_with fail
      go_ret
      exact ⟨qak (by simp), t8⟩
     ·skip
      go_wp2_with fail
      go_ret
      exact ⟨qak (by simp), t8⟩
   ·skip
    go_wp2_with fail
    go_ret
    exact ⟨qak (by simp), t6⟩
  ·skip
   go_wp2_with fail
   go_ret
   exact ⟨qak (by simp), t5⟩
theorem g8_any (b c a : Cw) (w : World) :
 Calls Tryz.prog 77 #[.agg (cwA b), .agg (cwA c), .agg (cwA a)] w fun e w' => e = .returned (.bool (g8 b c a)) /\ Below w.heap.size w w' := by
 have hval : g8 b c a = (colW c 32 && colW b 32) := rfl
 rw [hval]
 clear hval
 obtain ⟨c1, h1⟩ : ∃ q, colW c 32 = q := ⟨_, rfl⟩
 obtain ⟨c2, h2⟩ : ∃ q, colW b 32 = q := ⟨_, rfl⟩
 rw [h1, h2]
 have H1 := xaa h1
 have H2 := xaa h2
 clear h1 h2
 have K0 := Kn.nil w
 have t0 := Below.refl w.heap.size w
 go_enter Tryz.func77, Tryz.ntmps77
 go_wp2_with (first | (refine qfa rfl (.tmp 0) rfl b rfl ?_; intro v1 b1 B1; have K1 := K0.cons b1 B1; have t1 := xaq t0 b1; clear b1 B1) | (refine qfa rfl (.tmp 1) rfl c rfl ?_; intro v2 b2 B2; have K2 := K1.cons b2 B2; have t2 := xaq t1 b2; clear b2 B2) | (refine qfa rfl (.tmp 2) rfl a rfl ?_; intro v3 b3 B3; have K3 := K2.cons b3 B3; have t3 := xaq t2 b3; clear b3 B3) | (refine ldW rfl (.tmp 4) rfl _ rfl c (K3.at_ 1 rfl).lies ?_))
 refine (qc9 c 32 _).mono ?_
 rw [H1.out]
 rintro e u4 ⟨rfl, d4⟩
 have K4 := K3.below d4
 have t4 := xaq t3 d4
 cases c1
 ·skip
  go_wp2_with fail
  go_ret
  exact ⟨qak (by simp), t4⟩
 ·skip
  go_wp2_with (first | (refine qd9 (by kernel_rfl) (.tmp 3) rfl _ rfl b (K4.at_ 2 rfl).lies ?_))
  refine (qc9 b 32 _).mono ?_
  rw [H2.out]
  rintro e u5 ⟨rfl, d5⟩
  have K5 := K4.below d5
  have t5 := xaq t4 d5
  cases c2
  ·skip
   go_wp2_with fail
   go_ret
   exact ⟨qak (by simp), t5⟩
  ·skip
   go_wp2_with fail
   go_ret
   exact ⟨qak (by simp), t5⟩
end Wl
end Go.Proofs.YtmceblkjbpbcoaaGreatDoor
