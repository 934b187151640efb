/- Characters (api.Char, white.char) as values in memory; rows of them; loads, boxes, stores, appends of them, comparisons. No walk. -/
import Derived.Test.YtnoenccpbbkdeaaGA
import Derived.Test.YtnoenccpbbkdeaaGF
namespace Go.Proofs.Ytnoenccpbbkdeaa
open Go.ChangeShapes Go.WideShapes Go.ChangeAt Go.RowKit
open Wh

def chA (x : Cr) : Array Value := #[.int .i32 x.r, .int .i64 x.node, .int .i64 x.at_, .int .i64 x.n, .int .u8 x.kind]
def cwA (x : Cw) : Array Value := #[.int .i32 x.c.r, .int .i64 x.c.node, .int .i64 x.c.at_, .int .i64 x.c.n, .int .u8 x.c.kind, .int .u8 x.w]
theorem flat_invW (k : Nat) : ∀ (rows : List (List Value)), (∀ x ∈ rows, x.length = k) → ∀ (j : Nat) (u : Value), rows.flatten[j]? = some u → ∃ i x j', rows[i]? = some x ∧ x[j']? = some u ∧ j = i * k + j'
  | [], _, j, u, h => by simp at h
  | r :: rows, hk, j, u, h => by
    have hr := hk r (List.mem_cons_self ..)
    rw [List.flatten_cons] at h
    by_cases hj : j < r.length
    · rw [List.getElem?_append_left hj] at h
      exact ⟨0, r, j, rfl, h, by simp⟩
    · rw [List.getElem?_append_right (by omega)] at h
      obtain ⟨i, x, j', h1, h2, h3⟩ := flat_invW k rows (fun x hx => hk x (List.mem_cons_of_mem _ hx)) _ u h
      exact ⟨i + 1, x, j', by simpa using h1, h2, by rw [Nat.succ_mul]; omega⟩
def zCr : Cr := ⟨0, 0, 0, 0, 0⟩
def zCw : Cw := ⟨zCr, 0⟩


/-! ### api.Char -/
theorem uC : Try.prog.underlying 39 = some (.struct (Try.prog.fieldsOf 39)) := by kernel_rfl
theorem iC (x : Cr) : (Try.prog.info? 39).map (·.size) = some (chA x).size := by kernel_rfl
theorem oneC (x : Cr) : (chA x).all (·.oneCell') = true := by kernel_rfl
theorem elmC : Elm Try.prog 22 39 5 40 := ⟨Try.underlying22, ⟨.agg (chA zCr), by kernel_rfl, rfl⟩, by decide, by decide⟩
theorem bsC (x : Cr) (w : World) : (Instr.buildSlice 22 1 #[(0, .agg (chA x))]).run Try.prog w = .ok (.slice (some ⟨w.heap.size, 0, none⟩) 1 1) (w.alloc (.cells (chA x) 39)) := by kernel_rfl
theorem alC (w : World) : (Instr.alloc 39 true (.tuple #[])).run Try.prog w = .ok (.pointer (some ⟨w.heap.size, 0, none⟩)) (w.alloc (.cells (chA zCr) 39)) := by kernel_rfl
theorem bxC (x : Cr) (w : World) : (Instr.box 39 (.agg (chA x))).run Try.prog w = .ok (.pointer (some ⟨w.heap.size, 0, none⟩)) (w.alloc (.cells (chA x) 39)) := by kernel_rfl
section
variable {ops : Array Oper} {Q : Exit → Act → World → Prop} {a : Act} {w : World} {rest : List Oper} {o o1 o2 : Oper}
theorem rdC (x : Operand) (ho : o.op = .load 39 x) (p : Addr) (hx : a.eval x = .pointer (some p)) (s : Cr) (hL : Lies w p (chA s)) : (execOp a.eval o).run Try.prog w = .ok (.value (.agg (chA s))) w := run_op_load 39 x ho p hx (chA s) _ hL uC rfl (iC s)
theorem ldC (hg : o.guard = none) (x : Operand) (ho : o.op = .load 39 x) (p : Addr) (hx : a.eval x = .pointer (some p)) (s : Cr) (hL : Lies w p (chA s))
    (h : wpList Try.prog ops Q rest (a.put o.dst (.agg (chA s))) w) : wpList Try.prog ops Q (o :: rest) a w := wpList_loadL hg 39 x ho p hx (chA s) _ hL uC rfl (iC s) h
theorem ldCIf (hw : Region.wanted o (yielded ops a.tmps) = true) (x : Operand) (ho : o.op = .load 39 x) (p : Addr) (hx : a.eval x = .pointer (some p)) (s : Cr) (hL : Lies w p (chA s))
    (h : wpList Try.prog ops Q rest (a.put o.dst (.agg (chA s))) w) : wpList Try.prog ops Q (o :: rest) a w := wpList_valIf hw _ rfl _ _ (rdC x ho p hx s hL) h
theorem alCV (hg : o.guard = none) (ho : o.op = .alloc 39) (h : ∀ w', Below w.heap.size w w' → Blk w' w.heap.size 39 (chA zCr) → wpList Try.prog ops Q rest (a.put o.dst (.pointer (some ⟨w.heap.size, 0, none⟩))) w') : wpList Try.prog ops Q (o :: rest) a w :=
  wpList_newV hg 39 ho _ alC h
theorem bxCV (hg : o.guard = none) (x : Operand) (ho : o.op = .box 39 x) (s : Cr) (hx : a.eval x = .agg (chA s)) (h : ∀ w', Below w.heap.size w w' → Blk w' w.heap.size 39 (chA s) → wpList Try.prog ops Q rest (a.put o.dst (.pointer (some ⟨w.heap.size, 0, none⟩))) w') : wpList Try.prog ops Q (o :: rest) a w :=
  wpList_boxL hg 39 x ho (chA s) hx (bxC s) h
theorem stC (hg : o.guard = none) (x y : Operand) (ho : o.op = .store 39 x y) (hd : o.dst = none) (g : Nat) (hx : a.eval x = .pointer (some ⟨g, 0, none⟩)) (s : Cr) (hy : a.eval y = .agg (chA s)) {t : TypeId} (old : Cr) (hB : Blk w g t (chA old))
    (h : ∀ w', Mod (fun k => k = g) w w' → Blk w' g t (chA s) → wpList Try.prog ops Q rest a w') : wpList Try.prog ops Q (o :: rest) a w :=
  wpList_storeL hg 39 x y ho hd g hx (chA s) hy t (chA old) hB (iC s) rfl (oneC s) h
theorem nwC (hg1 : o1.guard = none) (hg2 : o2.guard = none) (D : Tmp) (hd1 : o1.dst = some D) (ho1 : o1.op = .alloc 39) (y : Operand) (ho2 : o2.op = .store 39 (.tmp D) y) (hd2 : o2.dst = none)
    (s : Cr) (hx : ∀ v, (a.put (some D) v).eval (.tmp D) = v) (hy : ∀ v, (a.put (some D) v).eval y = .agg (chA s))
    (h : ∀ w', Below w.heap.size w w' → Blk w' w.heap.size 39 (chA s) → wpList Try.prog ops Q rest (a.put (some D) (.pointer (some ⟨w.heap.size, 0, none⟩))) w') : wpList Try.prog ops Q (o1 :: o2 :: rest) a w :=
  wpList_newS hg1 hg2 39 D hd1 ho1 y ho2 hd2 _ alC (chA s) hx hy (iC s) rfl (oneC s) h
/-- out = append(out, x) -/
theorem apC (hg1 : o1.guard = none) (x : Operand) (ho1 : o1.op = .buildSlice 22 1 #[(0, x)]) (D : Tmp) (hd1 : o1.dst = some D)
    (hg2 : o2.guard = none) (sl : Operand) (ho2 : o2.op = .call { callee := .builtin .append, args := #[sl, .tmp D], argTypes := #[22, 22] }) (s : Cr) (hx : a.eval x = .agg (chA s))
    (v : Value) (hs : ∀ u, (a.put (some D) u).eval sl = v) (hD : ∀ u, (a.put (some D) u).eval (.tmp D) = u) (base n : Nat) (xs : List Value) (hown : w.ownsRow base 39 5 v n xs) (hn : n < 4194304) (hbase : base ≤ w.heap.size)
    (h : ∀ u v' w', w'.ownsRow base 39 5 v' (n + 1) (xs ++ (chA s).toList) → Below base w w' → wpList Try.prog ops Q rest ((a.put (some D) u).put o2.dst v') w') : wpList Try.prog ops Q (o1 :: o2 :: rest) a w :=
  apG elmC hg1 x ho1 D hd1 hg2 sl ho2 (.agg (chA s)) (chA s) hx rfl (oneC s) (bsC s) v hs hD base n xs hown hn hbase h
end
/-- v is a slice that reads as l -/
def RwC (w : World) (v : Value) (l : List Cr) : Prop := RowN 5 (fun _ => False) w v (l.map fun s => (chA s).toList)
theorem RwC.below {w w' : World} {v : Value} {l : List Cr} (h : RwC w v l) (b : Below w.heap.size w w') : RwC w' v l := RowN.below h b
theorem RwC.form {w : World} {v : Value} {l : List Cr} (h : RwC w v l) : ∃ A c, v = .slice A l.length c := by
  have := RowN.form h
  rwa [List.length_map] at this
theorem RwC.get {w wx : World} {v : Value} {l : List Cr} (h : RwC w v l) (b : Below w.heap.size w wx) {i : Nat} {s : Cr} (hi : l[i]? = some s) :
    ∃ a cap o, v = .slice (some a) l.length cap ∧ a.block < w.heap.size ∧ a.add (i * 5) = ⟨a.block, o, none⟩ ∧ Lies wx ⟨a.block, o, none⟩ (chA s) := by
  obtain ⟨a, cap, o, hv, hb, _, ha, hc⟩ := RowN.get h b (x := (chA s).toList) (by rw [List.getElem?_map, hi]; rfl) (by simp [chA])
  rw [List.length_map] at hv
  exact ⟨a, cap, o, hv, hb, ha, lies_of rfl hc⟩
def flatC (l : List Cr) : List Value := (l.map fun s => (chA s).toList).flatten
theorem flatC_snoc (l : List Cr) (s : Cr) : flatC (l ++ [s]) = flatC l ++ (chA s).toList := by simp [flatC]
theorem flatC_app (l m : List Cr) : flatC (l ++ m) = flatC l ++ flatC m := by simp [flatC]
theorem flatC_len (l : List Cr) : (flatC l).length = l.length * 5 := by
  induction l with
  | nil => rfl
  | cons x l ih =>
    have : flatC (x :: l) = (chA x).toList ++ flatC l := rfl
    rw [this, List.length_append, ih, List.length_cons]; show 5 + _ = _; omega
theorem flatC_one (l : List Cr) : ∀ u ∈ flatC l, u.oneCell' = true := fun u hu => by
  obtain ⟨x, hx, hu⟩ := List.mem_flatten.1 hu
  obtain ⟨s, _, rfl⟩ := List.mem_map.1 hx
  exact (Array.all_eq_true_iff_forall_mem.1 (oneC s)) u (by simpa using hu)
theorem own_rwC {w : World} {base n : Nat} {v : Value} {l : List Cr} (h : w.ownsRow base 39 5 v n (flatC l)) (hn : l.length = n) : RwC w v l := by
  have h2 : RowN 5 (fun b => b < base) w v (l.map fun s => (chA s).toList) := RowN.of_own h rfl (by rw [List.length_map]; exact hn) (fun x hx => by
    obtain ⟨s, _, rfl⟩ := List.mem_map.1 hx
    rfl)
  exact RowN.mono (T := fun _ => False) h2 fun _ _ h => h.elim
theorem RwC.flat {w : World} {a : Addr} {n c : Nat} {l : List Cr} (h : RwC w (.slice (some a) n c) l) : ∀ j u, (flatC l)[j]? = some u → w.cell? (a.add j) = some u := fun j u hu => by
  obtain ⟨i, x, j', h1, h2, rfl⟩ := flat_invW 5 (l.map fun s => (chA s).toList) (fun x hx => by obtain ⟨s, _, rfl⟩ := List.mem_map.1 hx; rfl) j u hu
  rcases h with ⟨h, _⟩ | ⟨a', cap', hv, _, h3⟩
  · cases h
  · injection hv with hv1
    injection hv1 with hv1
    subst hv1
    exact h3 i x h1 j' u h2


/-! ### white.char -/
theorem oneW (x : Cw) : (cwA x).all (·.oneCell') = true := by kernel_rfl
section
variable {ops : Array Oper} {Q : Exit → Act → World → Prop} {a : Act} {w : World} {rest : List Oper} {o o1 o2 : Oper}
end
/-- v is a slice that reads as l -/
def RwW (w : World) (v : Value) (l : List Cw) : Prop := RowN 6 (fun _ => False) w v (l.map fun s => (cwA s).toList)
theorem RwW.below {w w' : World} {v : Value} {l : List Cw} (h : RwW w v l) (b : Below w.heap.size w w') : RwW w' v l := RowN.below h b
theorem RwW.form {w : World} {v : Value} {l : List Cw} (h : RwW w v l) : ∃ A c, v = .slice A l.length c := by
  have := RowN.form h
  rwa [List.length_map] at this
theorem RwW.get {w wx : World} {v : Value} {l : List Cw} (h : RwW w v l) (b : Below w.heap.size w wx) {i : Nat} {s : Cw} (hi : l[i]? = some s) :
    ∃ a cap o, v = .slice (some a) l.length cap ∧ a.block < w.heap.size ∧ a.add (i * 6) = ⟨a.block, o, none⟩ ∧ Lies wx ⟨a.block, o, none⟩ (cwA s) := by
  obtain ⟨a, cap, o, hv, hb, _, ha, hc⟩ := RowN.get h b (x := (cwA s).toList) (by rw [List.getElem?_map, hi]; rfl) (by simp [cwA])
  rw [List.length_map] at hv
  exact ⟨a, cap, o, hv, hb, ha, lies_of rfl hc⟩
def flatW (l : List Cw) : List Value := (l.map fun s => (cwA s).toList).flatten
theorem flatW_snoc (l : List Cw) (s : Cw) : flatW (l ++ [s]) = flatW l ++ (cwA s).toList := by simp [flatW]
theorem flatW_app (l m : List Cw) : flatW (l ++ m) = flatW l ++ flatW m := by simp [flatW]
theorem flatW_len (l : List Cw) : (flatW l).length = l.length * 6 := by
  induction l with
  | nil => rfl
  | cons x l ih =>
    have : flatW (x :: l) = (cwA x).toList ++ flatW l := rfl
    rw [this, List.length_append, ih, List.length_cons]; show 6 + _ = _; omega
theorem flatW_one (l : List Cw) : ∀ u ∈ flatW l, u.oneCell' = true := fun u hu => by
  obtain ⟨x, hx, hu⟩ := List.mem_flatten.1 hu
  obtain ⟨s, _, rfl⟩ := List.mem_map.1 hx
  exact (Array.all_eq_true_iff_forall_mem.1 (oneW s)) u (by simpa using hu)
theorem RwW.flat {w : World} {a : Addr} {n c : Nat} {l : List Cw} (h : RwW w (.slice (some a) n c) l) : ∀ j u, (flatW l)[j]? = some u → w.cell? (a.add j) = some u := fun j u hu => by
  obtain ⟨i, x, j', h1, h2, rfl⟩ := flat_invW 6 (l.map fun s => (cwA s).toList) (fun x hx => by obtain ⟨s, _, rfl⟩ := List.mem_map.1 hx; rfl) j u hu
  rcases h with ⟨h, _⟩ | ⟨a', cap', hv, _, h3⟩
  · cases h
  · injection hv with hv1
    injection hv1 with hv1
    subst hv1
    exact h3 i x h1 j' u h2


/-! ### comparisons of api.Char -/
theorem cr_eq (c d : Cr) : c = d ↔ c.r = d.r ∧ c.node = d.node ∧ c.at_ = d.at_ ∧ c.n = d.n ∧ c.kind = d.kind := by
  cases c; cases d; simp
theorem cr_dec (c d : Cr) : decide (c = d) = (decide (c.r = d.r) && (decide (c.node = d.node) && (decide (c.at_ = d.at_) && (decide (c.n = d.n) && decide (c.kind = d.kind))))) := by
  simp only [← dec_and]
  rw [decide_eq_decide]
  exact cr_eq c d
theorem neC (c d : Cr) (w : World) (b : Bool) (hb : decide (c = d) = b) : (binOp .neq 39 (.agg (chA c)) (.agg (chA d))).run Try.prog w = .ok (.bool (!b)) w := by
  subst hb
  have u1 := Try.underlying5
  have u2 := Try.underlying3
  have u3 := Try.underlying21
  rw [cr_dec]
  unfold chA
  rw [run_neq_struct, show (10000 : Nat) = 9999 + 1 from rfl, run_equalIn_agg w 9999 39 _ _ uC (by kernel_rfl)]
  simp only [Program.fieldsOf, Try.underlying39]
  go_simp
  simp only [ite_or, Bool.or_false]
end Go.Proofs.Ytnoenccpbbkdeaa
