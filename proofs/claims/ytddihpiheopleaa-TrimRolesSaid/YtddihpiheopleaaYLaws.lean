/- Structs whose cells are not looked into: loads, boxes, new variables and stores of them, with the world behind a variable; several blocks known at once; results. No function of the program is named. No walk. -/
import Derived.Test.YtddihpiheopleaaRegS
import Derived.Laws.StructEq
import Derived.Deep.RegionHeld3
namespace Go.Proofs.Ytddihpiheopleaa
open Go.ChangeShapes Go.WideShapes Go.ChangeAt Go.RowKit

/-- the cells cs lie at p -/
def Lies (w : World) (p : Addr) (cs : Array Value) : Prop := ∀ j v, cs[j]? = some v → w.cell? (p.add j) = some v

/-- several blocks, known whole -/
def Kn (w : World) (L : List (Nat × TypeId × Array Value)) : Prop := ∀ x ∈ L, Blk w x.1 x.2.1 x.2.2
theorem Kn.nil (w : World) : Kn w [] := fun _ h => by cases h
theorem Kn.below {w w' : World} {L : List (Nat × TypeId × Array Value)} (h : Kn w L) (b : Below w.heap.size w w') : Kn w' L := fun x hx => (h x hx).keep (S := fun _ => False) (Mod.of_below b) id
theorem Kn.cons {w w' : World} {L : List (Nat × TypeId × Array Value)} (h : Kn w L) (b : Below w.heap.size w w') {g : Nat} {t : TypeId} {cs : Array Value} (B : Blk w' g t cs) : Kn w' ((g, t, cs) :: L) := fun x hx => by
  rcases List.mem_cons.1 hx with rfl | hx
  · exact B
  · exact h.below b x hx
theorem Kn.at_ {w : World} {L : List (Nat × TypeId × Array Value)} (h : Kn w L) (i : Nat) {g : Nat} {t : TypeId} {cs : Array Value} (hi : L[i]? = some (g, t, cs)) : Blk w g t cs := h _ (List.mem_of_getElem? hi)
theorem Blk.lies {w : World} {g : Nat} {t : TypeId} {cs : Array Value} (h : Blk w g t cs) : Lies w ⟨g, 0, none⟩ cs := fun j v hv => by
  have : (⟨g, 0, none⟩ : Addr).add j = ⟨g, j, none⟩ := by unfold Addr.add; split <;> simp_all
  rw [this, h.cell]
  exact hv
/-- a part of a block's cells -/
theorem Blk.part {w : World} {g : Nat} {t : TypeId} {cs xs : Array Value} (h : Blk w g t cs) (o : Nat) (hx : ∀ j v, xs[j]? = some v → cs[o + j]? = some v) : Lies w ⟨g, o, none⟩ xs := fun j v hv => by
  have : (⟨g, o, none⟩ : Addr).add j = ⟨g, o + j, none⟩ := by unfold Addr.add; split <;> simp_all
  rw [this, h.cell]
  exact hx j v hv
theorem Lies.below {w w' : World} {p : Addr} {cs : Array Value} (h : Lies w p cs) (b : Below w.heap.size w w') : Lies w' p cs := fun j v hv => by
  have h1 := h j v hv
  exact (b.cell (World.block_lt_of_cell? _ _ h1)).trans h1

section
variable {P : Program} {ops : Array Oper} {Q : Exit → Act → World → Prop} {a : Act} {w : World} {rest : List Oper} {o o1 o2 : Oper}

theorem run_load_at (w : World) (p : Addr) (ty : TypeId) (cs : Array Value) (d : TypeDesc) (hL : Lies w p cs)
    (hu : P.underlying ty = some d) (hd : (match d with | .struct _ | .array _ _ => true | _ => false) = true) (hi : (P.info? ty).map (·.size) = some cs.size) :
    (loadVar ty p).run P w = .ok (.agg cs) w := by
  have hl : (loadCells p cs.toList.length).run P w = .ok cs.toList.toArray w :=
    run_loadCells_list (P := P) w p cs.toList (fun j v hv => hL j v (by simpa using hv))
  cases hq : P.info? ty with
  | none => simp [hq] at hi
  | some i =>
    have hs : i.size = cs.size := by simpa [hq] using hi
    have hagg : (isAgg ty).run P w = .ok true w := by
      unfold isAgg
      rw [Sem.run_bind, run_underlying hu w]
      cases d <;> simp_all
    simp only [Array.length_toList, Array.toArray_toList] at hl
    simp [loadVar, Sem.run_bind, hagg, sizeOf, typeInfo, hq, hs, hl]

theorem run_op_load (ty : TypeId) (x : Operand) (ho : o.op = .load ty x) (p : Addr) (hx : a.eval x = .pointer (some p)) (cs : Array Value) (d : TypeDesc) (hL : Lies w p cs)
    (hu : P.underlying ty = some d) (hd : (match d with | .struct _ | .array _ _ => true | _ => false) = true) (hi : (P.info? ty).map (·.size) = some cs.size) :
    (execOp a.eval o).run P w = .ok (.value (.agg cs)) w := by
  unfold execOp
  simp only [ho, hx, Instr.loadAt, Instr.sureAddr, Sem.run_bind, Sem.run_pure, Result.andThen_ok, run_load_at w p ty cs d hL hu hd hi]

/-- what is not guarded is wanted -/
theorem wanted_none (h : o.guard = none) (y : Nat → Option Bool) : Region.wanted o y = true := by simp [Region.wanted, h]

/-- one operation that yields v and goes to the world w' -/
theorem wpList_valIf (hw : Region.wanted o (yielded ops a.tmps) = true) (dst : Option Tmp) (hd : o.dst = dst) (v : Value) (w' : World) (hrun : (execOp a.eval o).run P w = .ok (.value v) w')
    (h : wpList P ops Q rest (a.put dst v) w') : wpList P ops Q (o :: rest) a w := by
  subst hd
  refine wpList_step fun K hK => ?_
  rw [if_pos hw]
  unfold Oper.wp
  rw [hrun]
  exact hK _ _ h

/-- a load of a struct -/
theorem wpList_loadL (hg : o.guard = none) (ty : TypeId) (x : Operand) (ho : o.op = .load ty x) (p : Addr) (hx : a.eval x = .pointer (some p)) (cs : Array Value) (d : TypeDesc) (hL : Lies w p cs)
    (hu : P.underlying ty = some d) (hd : (match d with | .struct _ | .array _ _ => true | _ => false) = true) (hi : (P.info? ty).map (·.size) = some cs.size)
    (h : wpList P ops Q rest (a.put o.dst (.agg cs)) w) : wpList P ops Q (o :: rest) a w :=
  wpList_valIf (wanted_none hg _) _ rfl _ _ (run_op_load ty x ho p hx cs d hL hu hd hi) h

/-- a new variable -/
theorem wpList_newV (hg : o.guard = none) (ty : TypeId) (ho : o.op = .alloc ty) (z : Array Value) (hal : ∀ w, (Instr.alloc ty true (.tuple #[])).run P w = .ok (.pointer (some ⟨w.heap.size, 0, none⟩)) (w.alloc (.cells z ty)))
    (h : ∀ w', Below w.heap.size w w' → Blk w' w.heap.size ty z → wpList P ops Q rest (a.put o.dst (.pointer (some ⟨w.heap.size, 0, none⟩))) w') : wpList P ops Q (o :: rest) a w := by
  refine wpList_valIf (wanted_none hg _) _ rfl _ _ ?_ (h _ (below_alloc w _) (Blk.new w ty z))
  unfold execOp
  simp only [ho, Sem.run_bind, hal, Sem.run_pure, Result.andThen_ok]

/-- a box -/
theorem wpList_boxL (hg : o.guard = none) (ty : TypeId) (x : Operand) (ho : o.op = .box ty x) (cs : Array Value) (hx : a.eval x = .agg cs) (hal : ∀ w, (Instr.box ty (.agg cs)).run P w = .ok (.pointer (some ⟨w.heap.size, 0, none⟩)) (w.alloc (.cells cs ty)))
    (h : ∀ w', Below w.heap.size w w' → Blk w' w.heap.size ty cs → wpList P ops Q rest (a.put o.dst (.pointer (some ⟨w.heap.size, 0, none⟩))) w') : wpList P ops Q (o :: rest) a w := by
  refine wpList_valIf (wanted_none hg _) _ rfl _ _ ?_ (h _ (below_alloc w _) (Blk.new w ty cs))
  unfold execOp
  simp only [ho, hx, Sem.run_bind, hal, Sem.run_pure, Result.andThen_ok]

theorem mod_setRow (w : World) (g : Nat) (cs : Array Value) : Mod (fun k => k = g) w (w.setRow g cs) := ⟨rfl, rfl, rfl, by simp, fun k _ hk => setRow_other w g k cs hk⟩

/-- a store of a whole struct -/
theorem wpList_storeL (hg : o.guard = none) (ty : TypeId) (x y : Operand) (ho : o.op = .store ty x y) (hd : o.dst = none) (g : Nat) (hx : a.eval x = .pointer (some ⟨g, 0, none⟩)) (cs : Array Value) (hy : a.eval y = .agg cs)
    (t : TypeId) (old : Array Value) (hB : Blk w g t old) (hi : (P.info? ty).map (·.size) = some cs.size) (hold : old.size = cs.size) (h1 : cs.all (·.oneCell') = true)
    (h : ∀ w', Mod (fun k => k = g) w w' → Blk w' g t cs → wpList P ops Q rest a w') : wpList P ops Q (o :: rest) a w :=
  wpList_store_row hg ty x y ho g cs hx hy t old hB hi hold h1 (by rw [hd]; exact h _ (mod_setRow _ _ _) (setRow_heap _ _ _ _ _ _ hB))

theorem wp_storeL {K : Act → World → Prop} (ty : TypeId) (x y : Operand) (ho : o.op = .store ty x y) (hd : o.dst = none) (g : Nat) (hx : a.eval x = .pointer (some ⟨g, 0, none⟩)) (cs : Array Value) (hy : a.eval y = .agg cs)
    (t : TypeId) (old : Array Value) (hB : Blk w g t old) (hi : (P.info? ty).map (·.size) = some cs.size) (hold : old.size = cs.size) (h1 : cs.all (·.oneCell') = true)
    (h : ∀ w', Mod (fun k => k = g) w w' → Blk w' g t cs → K a w') : o.wp P a w K Q :=
  wp_store_row ty x y ho g cs hx hy t old hB hi hold h1 (by rw [hd]; exact h _ (mod_setRow _ _ _) (setRow_heap _ _ _ _ _ _ hB))

/-- a new variable that a struct is stored into at once -/
theorem wpList_newS (hg1 : o1.guard = none) (hg2 : o2.guard = none) (ty : TypeId) (D : Tmp) (hd1 : o1.dst = some D) (ho1 : o1.op = .alloc ty) (y : Operand) (ho2 : o2.op = .store ty (.tmp D) y) (hd2 : o2.dst = none)
    (z : Array Value) (hal : ∀ w, (Instr.alloc ty true (.tuple #[])).run P w = .ok (.pointer (some ⟨w.heap.size, 0, none⟩)) (w.alloc (.cells z ty)))
    (cs : Array Value) (hx : ∀ v, (a.put (some D) v).eval (.tmp D) = v) (hy : ∀ v, (a.put (some D) v).eval y = .agg cs)
    (hi : (P.info? ty).map (·.size) = some cs.size) (hold : z.size = cs.size) (h1 : cs.all (·.oneCell') = true)
    (h : ∀ w', Below w.heap.size w w' → Blk w' w.heap.size ty cs → wpList P ops Q rest (a.put (some D) (.pointer (some ⟨w.heap.size, 0, none⟩))) w') : wpList P ops Q (o1 :: o2 :: rest) a w := by
  refine wpList_newV hg1 ty ho1 z hal fun w1 b1 B1 => ?_
  rw [hd1]
  exact wpList_storeL hg2 ty (.tmp D) y ho2 hd2 w.heap.size (hx _) cs (hy _) ty z B1 hi hold h1 fun w2 m2 B2 => h w2 (b1.trans (m2.below b1.size (fun k hk => by omega))) B2
end

/-! ### results -/
theorem res_row {P : Program} {fn : Func} {p : Tmp} {ty : TypeId} (h : fn.results = #[.cell p ty]) (tmps : Array Value) (w : World) (g : Nat) (t : TypeId) (cs : Array Value) (d : TypeDesc)
    (hp : tmps.getD p undef = .pointer (some ⟨g, 0, none⟩)) (hB : Blk w g t cs)
    (hu : P.underlying ty = some d) (hd : (match d with | .struct _ | .array _ _ => true | _ => false) = true) (hi : (P.info? ty).map (·.size) = some cs.size) :
    (results fn tmps).run P w = .ok (.agg cs) w := results_cell_row h tmps w g t cs (0, 0) d hp hB hu hd hi
theorem res_row_tmp {P : Program} {fn : Func} {p u : Tmp} {ty : TypeId} (h : fn.results = #[.cell p ty, .tmp u]) (tmps : Array Value) (w : World) (g : Nat) (t : TypeId) (cs : Array Value) (d : TypeDesc)
    (hp : tmps.getD p undef = .pointer (some ⟨g, 0, none⟩)) (hB : Blk w g t cs)
    (hu : P.underlying ty = some d) (hd : (match d with | .struct _ | .array _ _ => true | _ => false) = true) (hi : (P.info? ty).map (·.size) = some cs.size) :
    (results fn tmps).run P w = .ok (.tuple #[.agg cs, tmps.getD u undef]) w := by
  have hp' : tmps[p]?.getD undef = .pointer (some ⟨g, 0, none⟩) := by simpa using hp
  simp [results, h, hp', asAddr, run_loadVar_row w g t ty cs (0, 0) d hB hu hd hi]
end Go.Proofs.Ytddihpiheopleaa
