/- Inside a round, and at the wide fence: one operation that yields a value, walked by its run; new variables and stores of structs as arms (the generic part of XArOpIn). For any layer. No walk. -/
import Derived.Test.YtddihpiheopleaaArRegIn
import Derived.Test.YtddihpiheopleaaYRows
namespace Go.Proofs.Ytddihpiheopleaa
open Go.ChangeShapes Go.WideShapes Go.ChangeAt Go.RowKit Go.Shelf

section
variable {F : Fence} {n : Nat} {P : Program} {ops : Array Oper} {Q : Exit → Act → World → Prop} {a : Act} {w : World} {rest : List Oper} {o o1 o2 : Oper}

theorem wpIn_val (hF : ∀ f, F.fn f) (hd : ∀ c, o.op ≠ .defer c) {v : Value} {w' : World} {K : Act → World → Prop} (hrun : (execOp a.eval o).run P w = .ok (.value v) w') (h : K (a.put o.dst v) w') : o.wpIn F n P a w K Q := by
  unfold Oper.wpIn
  rw [Oper.semAt_eq _ _ _ hd, hrun]
  exact ⟨fun f _ => hF f, h⟩
theorem wpListIn_val (hF : ∀ f, F.fn f) (hd : ∀ c, o.op ≠ .defer c) (hg : o.guard = none) (dst : Option Tmp) (hdst : o.dst = dst) (v : Value) (w' : World) (hrun : (execOp a.eval o).run P w = .ok (.value v) w')
    (h : wpListIn F n P ops Q rest (a.put dst v) w') : wpListIn F n P ops Q (o :: rest) a w := by
  subst hdst
  exact wpListIn_plain hg fun K hK => wpIn_val hF hd hrun (hK _ _ h)

theorem wpIn_skp (hF : ∀ f, F.fn f) (hd : ∀ c, o.op ≠ .defer c) {w' : World} {K : Act → World → Prop} (hrun : (execOp a.eval o).run P w = .ok .skip w') (h : K (a.put o.dst undef) w') : o.wpIn F n P a w K Q := by
  unfold Oper.wpIn
  rw [Oper.semAt_eq _ _ _ hd, hrun]
  exact ⟨fun f _ => hF f, h⟩
theorem wpListIn_skp (hF : ∀ f, F.fn f) (hd : ∀ c, o.op ≠ .defer c) (hg : o.guard = none) (hdst : o.dst = none) (w' : World) (hrun : (execOp a.eval o).run P w = .ok .skip w')
    (h : wpListIn F n P ops Q rest a w') : wpListIn F n P ops Q (o :: rest) a w :=
  wpListIn_plain hg fun K hK => wpIn_skp hF hd hrun (hK _ _ (by rw [hdst]; exact h))

theorem run_op_new (ty : TypeId) (ho : o.op = .alloc ty) (z : Array Value) (hal : ∀ w, (Instr.alloc ty true (.tuple #[])).run P w = .ok (.pointer (some ⟨w.heap.size, 0, none⟩)) (w.alloc (.cells z ty))) :
    (execOp a.eval o).run P w = .ok (.value (.pointer (some ⟨w.heap.size, 0, none⟩))) (w.alloc (.cells z ty)) := by
  unfold execOp
  simp only [ho, Sem.run_bind, hal, Sem.run_pure, Result.andThen_ok]
theorem run_op_store (ty : TypeId) (x y : Operand) (ho : o.op = .store ty x y) (g off : Nat) (hx : a.eval x = .pointer (some ⟨g, off, none⟩)) (cs : Array Value) (hy : a.eval y = .agg cs)
    (t : TypeId) (old : Array Value) (hB : Blk w g t old) (hi : (P.info? ty).map (·.size) = some cs.size) (hold : off + cs.size ≤ old.size) (h1 : cs.all (·.oneCell') = true) :
    (execOp a.eval o).run P w = .ok .skip (w.setRow g (spl old off cs.toList)) := by
  have hrun := run_storeCells_off (P := P) g off t cs.toList 0 old w hB (by simpa using hold) (fun v hv => (Array.all_eq_true_iff_forall_mem.1 h1) v (by simpa using hv))
  rw [Nat.add_zero] at hrun
  have hv : (storeVar ty ⟨g, off, none⟩ (.agg cs)).run P w = .ok () (w.setRow g (spl old off cs.toList)) := by
    cases hq : P.info? ty with
    | none => simp [hq] at hi
    | some i =>
      have hs : cs.size = i.size := by simp [hq] at hi; omega
      simp [storeVar, sizeOf, typeInfo, hq, Value.cells, hs, hrun]
  unfold execOp
  simp only [ho, hx, hy, Instr.storeAt, Instr.sureAddr, Sem.run_bind, Sem.run_pure, Result.andThen_ok, hv]
/-- a new variable that a struct is stored into at once -/
theorem wpListIn_newS (hF : ∀ f, F.fn f) (hg1 : o1.guard = none) (hg2 : o2.guard = none) (ty : TypeId) (D : Tmp) (hd1 : o1.dst = some D) (ho1 : o1.op = .alloc ty) (y : Operand) (ho2 : o2.op = .store ty (.tmp D) y) (hd2 : o2.dst = none)
    (z : Array Value) (hal : ∀ w, (Instr.alloc ty true (.tuple #[])).run P w = .ok (.pointer (some ⟨w.heap.size, 0, none⟩)) (w.alloc (.cells z ty)))
    (cs : Array Value) (hx : ∀ v, (a.put (some D) v).eval (.tmp D) = v) (hy : ∀ v, (a.put (some D) v).eval y = .agg cs)
    (hi : (P.info? ty).map (·.size) = some cs.size) (hold : z.size = cs.size) (h1 : cs.all (·.oneCell') = true)
    (h : ∀ w', Below w.heap.size w w' → KeepsOthers w w' → Blk w' w.heap.size ty cs → wpListIn F n P ops Q rest (a.put (some D) (.pointer (some ⟨w.heap.size, 0, none⟩))) w') : wpListIn F n P ops Q (o1 :: o2 :: rest) a w := by
  refine wpListIn_val hF (by rw [ho1]; intro c hc; cases hc) hg1 _ hd1 _ _ (run_op_new ty ho1 z hal) ?_
  refine wpListIn_skp hF (by rw [ho2]; intro c hc; cases hc) hg2 hd2 _ (run_op_store ty (.tmp D) y ho2 w.heap.size 0 (hx _) cs (hy _) ty z (Blk.new w ty z) hi (by omega) h1) ?_
  have B := setRow_heap (w.alloc (.cells z ty)) w.heap.size z (spl z 0 cs.toList) ty (0, 0) (Blk.new w ty z)
  have e : spl z 0 cs.toList = cs := by
    have hzl : z.toList.length ≤ 0 + cs.toList.length := by simp; omega
    unfold spl
    rw [List.take_zero, List.nil_append, List.drop_of_length_le hzl, List.append_nil, Array.toArray_toList]
  rw [e] at B ⊢
  have m := mod_setRow (w.alloc (.cells z ty)) w.heap.size cs
  have b1 := below_alloc w (.cells z ty)
  refine h _ (b1.trans (m.below b1.size (fun k hk => by omega))) ?_ B
  refine (KeepsOthers.alloc w _).trans ⟨m.size, fun k o' hk ho => ?_⟩
  by_cases e : k = w.heap.size
  · subst e
    have := (Blk.new w ty z)
    rw [show (w.alloc (.cells z ty)).heap[w.heap.size]? = _ from this] at hk
    cases hk
    cases ho
  · rw [m.block k (Array.getElem?_eq_some_iff.1 hk).1 e]
    exact hk
end
end Go.Proofs.Ytddihpiheopleaa
