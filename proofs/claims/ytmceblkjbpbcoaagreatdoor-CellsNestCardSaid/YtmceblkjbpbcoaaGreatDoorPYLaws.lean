/- Contracts of layers below. -/
import Derived.Test.YtmceblkjbpbcoaaGreatDoorPBase
import Derived.Laws.StructEq
import Derived.Deep.RegionHeld3
import Derived.Laws.MakeOwn
namespace Go.Proofs.YtmceblkjbpbcoaaGreatDoor
set_option maxHeartbeats 1000000
open Go.ChangeShapes Go.WideShapes Go.ChangeAt Go.RowKit
section
def qar (w : World) (p : Addr) (cs : Array Value) : Prop := ∀ j v, cs[j]? = some v -> w.cell? (p.add j) = some v
def Kn (w : World) (L : List (Nat × TypeId × Array Value)) : Prop := ∀ x ∈ L, Blk w x.1 x.2.1 x.2.2
theorem Kn.nil (w : World) : Kn w [] := fun _ h => by cases h
theorem Kn.below {w w' : World} {L : List (Nat × TypeId × Array Value)} (h : Kn w L) (b : Below w.heap.size w w') : Kn w' L := fun x hx => (h x hx).kb b
theorem Kn.cons {w w' : World} {L : List (Nat × TypeId × Array Value)} (h : Kn w L) (b : Below w.heap.size w w') {g : Nat} {t : TypeId} {cs : Array Value} (B : Blk w' g t cs) : Kn w' ((g, t, cs) :: L) := fun x hx => by
 rcases List.mem_cons.1 hx with rfl | hx
 ·exact B
 ·exact h.below b x hx
theorem Kn.at_ {w : World} {L : List (Nat × TypeId × Array Value)} (h : Kn w L) (i : Nat) {g : Nat} {t : TypeId} {cs : Array Value} (hi : L[i]? = some (g, t, cs)) : Blk w g t cs := h _ (xav hi)
theorem Blk.lies {w : World} {g : Nat} {t : TypeId} {cs : Array Value} (h : Blk w g t cs) : qar w ⟨g, 0, none⟩ cs := fun j v hv => by
 have : (⟨g, 0, none⟩ : Addr).add j = ⟨g, j, none⟩ := by unfold Addr.add; split <;> simp_all
 rw [this, h.cell]
 exact hv
theorem Blk.part {w : World} {g : Nat} {t : TypeId} {cs xs : Array Value} (h : Blk w g t cs) (o : Nat) (hx : ∀ j v, xs[j]? = some v -> cs[o + j]? = some v) : qar w ⟨g, o, none⟩ xs := fun j v hv => by
 have : (⟨g, o, none⟩ : Addr).add j = ⟨g, o + j, none⟩ := by unfold Addr.add; split <;> simp_all
 rw [this, h.cell]
 exact hx j v hv
theorem qar.below {w w' : World} {p : Addr} {cs : Array Value} (h : qar w p cs) (b : Below w.heap.size w w') : qar w' p cs := fun j v hv => by
 have h1 := h j v hv
 exact (b.cell (World.block_lt_of_cell? _ _ h1)).trans h1
section
variable {P : Program} {ops : Array Oper} {Q : Exit -> Act -> World -> Prop} {a : Act} {w : World} {rest : List Oper} {o o1 o2 : Oper}
theorem qkx (w : World) (p : Addr) (ty : TypeId) (cs : Array Value) (d : TypeDesc) (hL : qar w p cs)
 (hu : P.underlying ty = some d) (hd : (match d with | .struct _ | .array _ _ => true | _ => false) = true) (hi : (P.info? ty).map (·.size) = some cs.size) :
 (loadVar ty p).run P w = .ok (.agg cs) w := by
 have hl : (loadCells p cs.toList.length).run P w = .ok cs.toList.toArray w :=
  run_loadCells_list (P := P) w p cs.toList (fun j v hv => hL j v (by simpa using hv))
 cases hq : P.info? ty with
 | none => simp [hq] at hi
 | some i =>
   have hs : i.size = cs.size := by simpa [hq] using hi
   have hagg : (isAgg ty).run P w = .ok true w := by
    unfold isAgg
    rw [Sem.run_bind, run_underlying hu w]
    cases d <;> simp_all
   simp only [Array.length_toList, Array.toArray_toList] at hl
   simp [loadVar, Sem.run_bind, hagg, sizeOf, typeInfo, hq, hs, hl]
theorem qat (ty : TypeId) (x : Operand) (ho : o.op = .load ty x) (p : Addr) (hx : a.eval x = .pointer (some p)) (cs : Array Value) (d : TypeDesc) (hL : qar w p cs)
 (hu : P.underlying ty = some d) (hd : (match d with | .struct _ | .array _ _ => true | _ => false) = true) (hi : (P.info? ty).map (·.size) = some cs.size) :
 (execOp a.eval o).run P w = .ok (.value (.agg cs)) w := by
 unfold execOp
 simp only [ho, hx, Instr.loadAt, Instr.sureAddr, Sem.run_bind, Sem.run_pure, Result.andThen_ok, qkx w p ty cs d hL hu hd hi]
theorem qaa (h : o.guard = none) (y : Nat -> Option Bool) : Region.wanted o y = true := by simp [Region.wanted, h]
theorem qam (hw : Region.wanted o (yielded ops a.tmps) = true) (dst : Option Tmp) (hd : o.dst = dst) (v : Value) (w' : World) (hrun : (execOp a.eval o).run P w = .ok (.value v) w')
 (h : wpList P ops Q rest (a.put dst v) w') : wpList P ops Q (o :: rest) a w := by
 subst hd
 refine wpList_step fun K hK => ?_
 rw [if_pos hw]
 unfold Oper.wp
 rw [hrun]
 exact hK _ _ h
theorem qan (hg : o.guard = none) (ty : TypeId) (x : Operand) (ho : o.op = .load ty x) (p : Addr) (hx : a.eval x = .pointer (some p)) (cs : Array Value) (d : TypeDesc) (hL : qar w p cs)
 (hu : P.underlying ty = some d) (hd : (match d with | .struct _ | .array _ _ => true | _ => false) = true) (hi : (P.info? ty).map (·.size) = some cs.size)
 (h : wpList P ops Q rest (a.put o.dst (.agg cs)) w) : wpList P ops Q (o :: rest) a w :=
 qam (qaa hg _) _ rfl _ _ (qat ty x ho p hx cs d hL hu hd hi) h
theorem qao (hg : o.guard = none) (ty : TypeId) (ho : o.op = .alloc ty) (z : Array Value) (hal : ∀ w, (Instr.alloc ty true (.tuple #[])).run P w = .ok (.pointer (some ⟨w.heap.size, 0, none⟩)) (w.alloc (.cells z ty)))
 (h : ∀ w', Below w.heap.size w w' -> Blk w' w.heap.size ty z -> wpList P ops Q rest (a.put o.dst (.pointer (some ⟨w.heap.size, 0, none⟩))) w') : wpList P ops Q (o :: rest) a w := by
 refine qam (qaa hg _) _ rfl _ _ ?_ (h _ (xar w _) (Blk.new w ty z))
 unfold execOp
 simp only [ho, Sem.run_bind, hal, Sem.run_pure, Result.andThen_ok]
theorem qaq (hg : o.guard = none) (ty : TypeId) (x : Operand) (ho : o.op = .box ty x) (cs : Array Value) (hx : a.eval x = .agg cs) (hal : ∀ w, (Instr.box ty (.agg cs)).run P w = .ok (.pointer (some ⟨w.heap.size, 0, none⟩)) (w.alloc (.cells cs ty)))
 (h : ∀ w', Below w.heap.size w w' -> Blk w' w.heap.size ty cs -> wpList P ops Q rest (a.put o.dst (.pointer (some ⟨w.heap.size, 0, none⟩))) w') : wpList P ops Q (o :: rest) a w := by
 refine qam (qaa hg _) _ rfl _ _ ?_ (h _ (xar w _) (Blk.new w ty cs))
 unfold execOp
 simp only [ho, hx, Sem.run_bind, hal, Sem.run_pure, Result.andThen_ok]
theorem qai (w : World) (g : Nat) (cs : Array Value) : Mod (fun k => k = g) w (w.setRow g cs) := ⟨rfl, rfl, rfl, by simp, fun k _ hk => setRow_other w g k cs hk⟩
theorem qah (hg : o.guard = none) (ty : TypeId) (x y : Operand) (ho : o.op = .store ty x y) (hd : o.dst = none) (g : Nat) (hx : a.eval x = .pointer (some ⟨g, 0, none⟩)) (cs : Array Value) (hy : a.eval y = .agg cs)
 (t : TypeId) (old : Array Value) (hB : Blk w g t old) (hi : (P.info? ty).map (·.size) = some cs.size) (hold : old.size = cs.size) (h1 : cs.all (·.oneCell') = true)
 (h : ∀ w', Mod (fun k => k = g) w w' -> Blk w' g t cs -> wpList P ops Q rest a w') : wpList P ops Q (o :: rest) a w :=
 wpList_store_row hg ty x y ho g cs hx hy t old hB hi hold h1 (by rw [hd]; exact h _ (qai _ _ _) (setRow_heap _ _ _ _ _ _ hB))
theorem qpo {K : Act -> World -> Prop} (ty : TypeId) (x y : Operand) (ho : o.op = .store ty x y) (hd : o.dst = none) (g : Nat) (hx : a.eval x = .pointer (some ⟨g, 0, none⟩)) (cs : Array Value) (hy : a.eval y = .agg cs)
 (t : TypeId) (old : Array Value) (hB : Blk w g t old) (hi : (P.info? ty).map (·.size) = some cs.size) (hold : old.size = cs.size) (h1 : cs.all (·.oneCell') = true)
 (h : ∀ w', Mod (fun k => k = g) w w' -> Blk w' g t cs -> K a w') : o.wp P a w K Q :=
 wp_store_row ty x y ho g cs hx hy t old hB hi hold h1 (by rw [hd]; exact h _ (qai _ _ _) (setRow_heap _ _ _ _ _ _ hB))
theorem qab (hg1 : o1.guard = none) (hg2 : o2.guard = none) (ty : TypeId) (D : Tmp) (hd1 : o1.dst = some D) (ho1 : o1.op = .alloc ty) (y : Operand) (ho2 : o2.op = .store ty (.tmp D) y) (hd2 : o2.dst = none)
 (z : Array Value) (hal : ∀ w, (Instr.alloc ty true (.tuple #[])).run P w = .ok (.pointer (some ⟨w.heap.size, 0, none⟩)) (w.alloc (.cells z ty)))
 (cs : Array Value) (hx : ∀ v, (a.put (some D) v).eval (.tmp D) = v) (hy : ∀ v, (a.put (some D) v).eval y = .agg cs)
 (hi : (P.info? ty).map (·.size) = some cs.size) (hold : z.size = cs.size) (h1 : cs.all (·.oneCell') = true)
 (h : ∀ w', Below w.heap.size w w' -> Blk w' w.heap.size ty cs -> wpList P ops Q rest (a.put (some D) (.pointer (some ⟨w.heap.size, 0, none⟩))) w') : wpList P ops Q (o1 :: o2 :: rest) a w := by
 refine qao hg1 ty ho1 z hal fun w1 b1 B1 => ?_
 rw [hd1]
 exact qah hg2 ty (.tmp D) y ho2 hd2 w.heap.size (hx _) cs (hy _) ty z B1 hi hold h1 fun w2 m2 B2 => h w2 (b1.trans (m2.below b1.size (fun k hk => by omega))) B2
end
theorem qbf {P : Program} {fn : Func} {p : Tmp} {ty : TypeId} (h : fn.results = #[.cell p ty]) (tmps : Array Value) (w : World) (g : Nat) (t : TypeId) (cs : Array Value) (d : TypeDesc)
 (hp : tmps.getD p undef = .pointer (some ⟨g, 0, none⟩)) (hB : Blk w g t cs)
 (hu : P.underlying ty = some d) (hd : (match d with | .struct _ | .array _ _ => true | _ => false) = true) (hi : (P.info? ty).map (·.size) = some cs.size) :
 (results fn tmps).run P w = .ok (.agg cs) w := results_cell_row h tmps w g t cs (0, 0) d hp hB hu hd hi
theorem qf2 {P : Program} {fn : Func} {p u : Tmp} {ty : TypeId} (h : fn.results = #[.cell p ty, .tmp u]) (tmps : Array Value) (w : World) (g : Nat) (t : TypeId) (cs : Array Value) (d : TypeDesc)
 (hp : tmps.getD p undef = .pointer (some ⟨g, 0, none⟩)) (hB : Blk w g t cs)
 (hu : P.underlying ty = some d) (hd : (match d with | .struct _ | .array _ _ => true | _ => false) = true) (hi : (P.info? ty).map (·.size) = some cs.size) :
 (results fn tmps).run P w = .ok (.tuple #[.agg cs, tmps.getD u undef]) w := by
 have hp' : tmps[p]?.getD undef = .pointer (some ⟨g, 0, none⟩) := by simpa using hp
 simp [results, h, hp', asAddr, run_loadVar_row w g t ty cs (0, 0) d hB hu hd hi]
end
section
theorem setRow_self (w : World) (g : Nat) (t : TypeId) (cur : Array Value) (hg : w.heap[g]? = some (.cells cur t (0, 0))) : w.setRow g cur = w := by
 have hlt : g < w.heap.size := (xag hg).1
 have hv : w.heap[g] = .cells cur t (0, 0) := (xag hg).2
 unfold World.setRow
 cases w with
 | mk heap tape drawn os output =>
   congr 1
   apply Array.ext
   ·simp
   ·intro k h1 h2
    simp only [Array.getElem_modify]
    split
    ·rename_i hk; subst hk; simp at hv; simp [hv]
    ·rfl
def spl (cs : Array Value) (o : Nat) (xs : List Value) : Array Value := (cs.toList.take o ++ (xs ++ cs.toList.drop (o + xs.length))).toArray
theorem qqb (cs : Array Value) (o : Nat) : spl cs o [] = cs := by
 unfold spl
 simp
theorem qfi (cs : Array Value) (o : Nat) (xs : List Value) (h : o + xs.length <= cs.size) : (spl cs o xs).size = cs.size := by
 unfold spl
 simp
 omega
theorem qdl (cs : Array Value) (o : Nat) (xs : List Value) (h : o + xs.length <= cs.size) (j : Nat) (hj : j < xs.length) : (spl cs o xs)[o + j]? = xs[j]? := by
 unfold spl
 have h1 : (cs.toList.take o).length = o := by simp; omega
 rw [xab, List.getElem?_append_right (by omega), h1, show o + j - o = j by omega, List.getElem?_append_left hj]
theorem qbp (cs : Array Value) (o : Nat) (xs : List Value) (h : o + xs.length <= cs.size) (i : Nat) (hi : i < o \/ o + xs.length <= i) : (spl cs o xs)[i]? = cs[i]? := by
 unfold spl
 have h1 : (cs.toList.take o).length = o := by simp; omega
 rw [xab]
 rcases hi with hi | hi
 ·rw [List.getElem?_append_left (by omega), List.getElem?_take_of_lt hi]
  simp
 ·rw [List.getElem?_append_right (by omega), h1, List.getElem?_append_right (by omega), List.getElem?_drop, show o + xs.length + (i - o - xs.length) = i by omega]
  simp
theorem qtq (cs : Array Value) (o : Nat) (v : Value) (xs : List Value) (h : o + (xs.length + 1) <= cs.size) : spl (cs.setIfInBounds o v) (o + 1) xs = spl cs o (v :: xs) := by
 apply Array.ext_getElem?
 intro i
 have hs : (cs.setIfInBounds o v).size = cs.size := by simp
 by_cases hi : i < o
 ·rw [qbp _ _ _ (by rw [hs]; omega) i (.inl (by omega)), qbp _ _ _ (by simp; omega) i (.inl hi), Array.getElem?_setIfInBounds_ne (by omega)]
 ·by_cases h2 : i = o
  ·subst h2
   rw [qbp _ _ _ (by rw [hs]; omega) i (.inl (by omega))]
   have := qdl cs i (v :: xs) (by simp; omega) 0 (by simp)
   rw [Nat.add_zero] at this
   rw [this, Array.getElem?_setIfInBounds_self_of_lt (by omega)]
   rfl
  ·by_cases h3 : i < o + 1 + xs.length
   ·have e1 := qdl (cs.setIfInBounds o v) (o + 1) xs (by rw [hs]; omega) (i - (o + 1)) (by omega)
    have e2 := qdl cs o (v :: xs) (by simp; omega) (i - o) (by simp; omega)
    rw [show o + 1 + (i - (o + 1)) = i by omega] at e1
    rw [show o + (i - o) = i by omega, show i - o = (i - (o + 1)) + 1 by omega, xae] at e2
    rw [e1, e2]
   ·rw [qbp _ _ _ (by rw [hs]; omega) i (.inr (by omega)), qbp _ _ _ (by simp; omega) i (.inr (by simp; omega)), Array.getElem?_setIfInBounds_ne (by omega)]
section
variable {P : Program} {ops : Array Oper} {Q : Exit -> Act -> World -> Prop} {a : Act} {w : World} {rest : List Oper} {o o1 o2 : Oper}
theorem qap (g off : Nat) (t : TypeId) : ∀ (vs : List Value) (i : Nat) (cur : Array Value) (w : World), w.heap[g]? = some (.cells cur t (0, 0)) -> off + i + vs.length <= cur.size -> (∀ v ∈ vs, v.oneCell' = true) →
 (storeCells ⟨g, off, none⟩ vs i).run P w = .ok () (w.setRow g (spl cur (off + i) vs))
 | [], i, cur, w, hg, _, _ => by
   rw [qqb, setRow_self w g t cur hg]
   rfl
 | v :: vs, i, cur, w, hg, hl, h1 => by
   have hi : off + i < cur.size := by simp at hl; omega
   have hadd : (⟨g, off, none⟩ : Addr).add i = ⟨g, off + i, none⟩ := by unfold Addr.add; split <;> simp_all
   have hcell : w.cell? ⟨g, off + i, none⟩ = some cur[off + i] := by simp [World.cell?, hg, hi]
   have hfro : w.frozen? ⟨g, off + i, none⟩ = false := by simp [World.frozen?, hg]
   have hst : (store ((⟨g, off, none⟩ : Addr).add i) v).run P w = .ok () (w.setRow g (cur.setIfInBounds (off + i) v)) := by
    rw [hadd, run_store P w _ v _ (h1 v (by simp)), hcell]
    simp [hfro, setCell_eq_setRow w g (off + i) cur t (0, 0) v hg]
   have ih := qap g off t vs (i + 1) (cur.setIfInBounds (off + i) v) (w.setRow g (cur.setIfInBounds (off + i) v)) (setRow_heap w g cur _ t _ hg) (by simp at hl |-; omega) (fun x hx => h1 x (by simp [hx]))
   simp only [storeCells, Sem.run_bind, hst, Result.andThen_ok, ih, setRow_setRow]
   rw [<- Nat.add_assoc, qtq cur (off + i) v vs (by simp at hl; omega)]
theorem qfr {K : Act -> World -> Prop} (ty : TypeId) (x y : Operand) (ho : o.op = .store ty x y) (hd : o.dst = none) (g off : Nat) (hx : a.eval x = .pointer (some ⟨g, off, none⟩)) (cs : Array Value) (hy : a.eval y = .agg cs)
 (t : TypeId) (old : Array Value) (hB : Blk w g t old) (hi : (P.info? ty).map (·.size) = some cs.size) (hold : off + cs.size <= old.size) (h1 : cs.all (·.oneCell') = true)
 (h : ∀ w', Mod (fun k => k = g) w w' -> Blk w' g t (spl old off cs.toList) -> K a w') : o.wp P a w K Q := by
 have hrun := qap (P := P) g off t cs.toList 0 old w hB (by simpa using hold) (fun v hv => (Array.all_eq_true_iff_forall_mem.1 h1) v (by simpa using hv))
 rw [Nat.add_zero] at hrun
 have hv : (storeVar ty ⟨g, off, none⟩ (.agg cs)).run P w = .ok () (w.setRow g (spl old off cs.toList)) := by
  cases hq : P.info? ty with
  | none => simp [hq] at hi
  | some i =>
    have hs : cs.size = i.size := by simp [hq] at hi; omega
    simp [storeVar, sizeOf, typeInfo, hq, Value.cells, hs, hrun]
 unfold Oper.wp execOp
 simp only [ho, hx, hy, Instr.storeAt, Instr.sureAddr, Sem.run_bind, Sem.run_pure, Result.andThen_ok, hv]
 show K (a.put o.dst undef) _
 rw [hd]
 exact h _ (qai _ _ _) (setRow_heap _ _ _ _ _ _ hB)
theorem qb8 (hg : o.guard = none) (ty : TypeId) (x y : Operand) (ho : o.op = .store ty x y) (hd : o.dst = none) (g off : Nat) (hx : a.eval x = .pointer (some ⟨g, off, none⟩)) (cs : Array Value) (hy : a.eval y = .agg cs)
 (t : TypeId) (old : Array Value) (hB : Blk w g t old) (hi : (P.info? ty).map (·.size) = some cs.size) (hold : off + cs.size <= old.size) (h1 : cs.all (·.oneCell') = true)
 (h : ∀ w', Mod (fun k => k = g) w w' -> Blk w' g t (spl old off cs.toList) -> wpList P ops Q rest a w') : wpList P ops Q (o :: rest) a w :=
 wpList_plain hg fun _ hK => qfr ty x y ho hd g off hx cs hy t old hB hi hold h1 fun w' m B => hK _ _ (h w' m B)
end
def Strs (w : World) (g : Nat) (t : TypeId) (k : Nat) (l : List (Array Value)) : Prop :=
 ∃ cur, Blk w g t cur /\ cur.size = l.length * k /\ ∀ i x, l[i]? = some x -> x.size = k /\ ∀ j v, x[j]? = some v -> cur[i * k + j]? = some v
theorem Strs.keep {S : Nat -> Prop} {w w' : World} {g : Nat} {t : TypeId} {k : Nat} {l : List (Array Value)} (h : Strs w g t k l) (m : Mod S w w') (hS : ¬ S g) : Strs w' g t k l := by
 obtain ⟨cur, hB, h2⟩ := h
 exact ⟨cur, hB.keep m hS, h2⟩
theorem Strs.kb {w w' : World} {g : Nat} {t : TypeId} {k : Nat} {l : List (Array Value)} (h : Strs w g t k l) (b : Below w.heap.size w w') : Strs w' g t k l := h.keep (S := fun _ => False) (Mod.of_below b) id
theorem Strs.below {w w' : World} {g : Nat} {t : TypeId} {k : Nat} {l : List (Array Value)} (h : Strs w g t k l) (b : Below w.heap.size w w') : Strs w' g t k l := h.kb b
theorem Strs.lt {w : World} {g : Nat} {t : TypeId} {k : Nat} {l : List (Array Value)} (h : Strs w g t k l) : g < w.heap.size := by
 obtain ⟨cur, hB, _⟩ := h
 exact hB.lt
theorem qji {i n k : Nat} (h : i < n) : i * k + k <= n * k := by
 have := Nat.mul_le_mul_right k (show i + 1 <= n by omega)
 rw [Nat.succ_mul] at this
 exact this
theorem qqe {i j k a : Nat} (h : i ≠ j) (ha : a < k) : i * k + a < j * k \/ j * k + k <= i * k + a := by
 rcases Nat.lt_or_ge i j with h1 | h1
 ·left
  have := qji (k := k) h1
  omega
 ·right
  have := qji (k := k) (show j < i by omega)
  omega
theorem Strs.set_ {w' : World} {g : Nat} {t : TypeId} {k : Nat} {l : List (Array Value)} {cur : Array Value} (h2 : cur.size = l.length * k) (h3 : ∀ i x, l[i]? = some x -> x.size = k /\ ∀ j v, x[j]? = some v -> cur[i * k + j]? = some v)
 {i : Nat} (hi : i < l.length) {x : Array Value} (hx : x.size = k) (hB : Blk w' g t (spl cur (i * k) x.toList)) : Strs w' g t k (l.set i x) := by
 have hle : i * k + x.toList.length <= cur.size := by
  rw [h2, Array.length_toList, hx]
  exact qji hi
 refine ⟨_, hB, by rw [qfi _ _ _ hle, h2, List.length_set], fun j y hj => ?_⟩
 by_cases e : j = i
 ·subst e
  rw [List.getElem?_set_self hi] at hj
  injection hj with hj
  subst hj
  refine ⟨hx, fun q v hq => ?_⟩
  have hql := (xag hq).1
  rw [qdl _ _ _ hle q (by simpa using hql)]
  simpa using hq
 ·rw [List.getElem?_set_ne (fun h => e h.symm)] at hj
  obtain ⟨h4, h5⟩ := h3 j y hj
  refine ⟨h4, fun q v hq => ?_⟩
  have hql := (xag hq).1
  rw [qbp _ _ _ hle (j * k + q) (by rw [Array.length_toList, hx]; exact qqe e (by omega))]
  exact h5 q v hq
theorem Strs.row {w : World} {g : Nat} {t : TypeId} {k n c : Nat} {l : List (Array Value)} (h : Strs w g t k l) (hn : l.length = n) : qa5 k (fun b => b < g) w (.slice (some ⟨g, 0, none⟩) n c) (l.map Array.toList) := by
 subst hn
 refine .inr ⟨⟨g, 0, none⟩, c, by rw [xao], .inr ⟨h.lt, Nat.lt_irrefl _⟩, fun i x hx j u hu => ?_⟩
 rw [xan] at hx
 cases hl : l[i]? with
 | none => rw [hl] at hx; cases hx
 | some y =>
   rw [hl] at hx
   injection hx with hx
   subst hx
   obtain ⟨cur, hB, _, h3⟩ := h
   have : (⟨g, 0, none⟩ : Addr).add (i * k + j) = ⟨g, i * k + j, none⟩ := by unfold Addr.add; split <;> simp_all
   rw [this, hB.cell]
   exact (h3 i y hl).2 j u (by simpa using hu)
end
section
structure Sty where
 a0 : Int
 a1 : Int
 a2 : Int
 a3 : Int
 a4 : Int
 a5 : Int
 a6 : Int
 a7 : Int
 a8 : Int
deriving DecidableEq
structure Dcl where
 n : Nat
 s : Sty
deriving DecidableEq
def Sty.zero : Sty := ⟨0, 0, 0, 0, 0, 0, 0, 0, 0⟩
def Dcl.zero : Dcl := ⟨0, .zero⟩
def ovk (k : Nat) (s : Sty) (n : Nat) (d : Sty) : Sty :=
 ⟨if decide (0 < k) && n.testBit 0 then d.a0 else s.a0, if decide (1 < k) && n.testBit 1 then d.a1 else s.a1, if decide (2 < k) && n.testBit 2 then d.a2 else s.a2,
  if decide (3 < k) && n.testBit 3 then d.a3 else s.a3, if decide (4 < k) && n.testBit 4 then d.a4 else s.a4, if decide (5 < k) && n.testBit 5 then d.a5 else s.a5,
  if decide (6 < k) && n.testBit 6 then d.a6 else s.a6, if decide (7 < k) && n.testBit 7 then d.a7 else s.a7, if decide (7 < k) && n.testBit 7 then d.a8 else s.a8⟩
def over (s : Sty) (d : Dcl) : Sty := ovk 8 s d.n d.s
def qih (i : Nat) (s d : Sty) : Sty :=
 ⟨if i = 0 then d.a0 else s.a0, if i = 1 then d.a1 else s.a1, if i = 2 then d.a2 else s.a2, if i = 3 then d.a3 else s.a3, if i = 4 then d.a4 else s.a4,
  if i = 5 then d.a5 else s.a5, if i = 6 then d.a6 else s.a6, if 7 <= i then d.a7 else s.a7, if 7 <= i then d.a8 else s.a8⟩
theorem quv (s : Sty) (n : Nat) (d : Sty) : ovk 0 s n d = s := by simp [ovk]
theorem eight {p : Nat -> Prop} (h0 : p 0) (h1 : p 1) (h2 : p 2) (h3 : p 3) (h4 : p 4) (h5 : p 5) (h6 : p 6) (h7 : p 7) : ∀ k, k < 8 -> p k := by
 intro k hk
 match k, hk with
 | 0, _ => exact h0
 | 1, _ => exact h1
 | 2, _ => exact h2
 | 3, _ => exact h3
 | 4, _ => exact h4
 | 5, _ => exact h5
 | 6, _ => exact h6
 | 7, _ => exact h7
theorem qcv (k : Nat) (hk : k < 8) (s : Sty) (n : Nat) (d : Sty) (h : n.testBit k = true) : ovk (k + 1) s n d = qih k (ovk k s n d) d := by
 revert h
 refine eight (p := fun k => n.testBit k = true -> ovk (k + 1) s n d = qih k (ovk k s n d) d) ?_ ?_ ?_ ?_ ?_ ?_ ?_ ?_ k hk <;> (intro h; simp [ovk, qih, h])
theorem qe0 (k : Nat) (hk : k < 8) (s : Sty) (n : Nat) (d : Sty) (h : n.testBit k = false) : ovk (k + 1) s n d = ovk k s n d := by
 revert h
 refine eight (p := fun k => n.testBit k = false -> ovk (k + 1) s n d = ovk k s n d) ?_ ?_ ?_ ?_ ?_ ?_ ?_ ?_ k hk <;> (intro h; simp [ovk, h])
def vld1 (i : Nat) (s : Sty) : Bool :=
 match i with
 | 0 => decide (s.a0 <= 5)
 | 1 => decide (s.a1 <= 2)
 | 2 => decide (s.a2 <= 1)
 | 3 => decide (s.a3 <= 3)
 | 4 => decide (0 <= s.a4 /\ s.a4 <= 64)
 | 5 => decide (0 <= s.a5 /\ s.a5 <= 63)
 | 6 => decide (0 <= s.a6 /\ s.a6 <= 1073741824)
 | _ => decide (s.a7 <= 2 /\ 0 <= s.a8 /\ s.a8 <= 1073741824)
def vld (s : Sty) : Bool := vld1 0 s && (vld1 1 s && (vld1 2 s && (vld1 3 s && (vld1 4 s && (vld1 5 s && (vld1 6 s && vld1 7 s))))))
def chk (s : Sty) : Int := if vld s then 0 else 60
def qpf (d : Dcl) : Bool := decide (d.n <= 255) && (decide (over .zero d = d.s) && vld d.s)
def chkD (d : Dcl) : Int := if qpf d then 0 else 60
theorem qot (d : Dcl) : (qpf d = true /\ chkD d = 0) \/ (qpf d = false /\ chkD d = 60) := by
 unfold chkD
 cases qpf d <;> simp
theorem vld_no (s : Sty) (k : Nat) (hk : k < 8) (h : vld1 k s = false) : vld s = false := by
 revert h
 refine eight (p := fun k => vld1 k s = false -> vld s = false) ?_ ?_ ?_ ?_ ?_ ?_ ?_ ?_ k hk <;> (intro h; simp [vld, h])
theorem qyf (s : Sty) (h : ∀ i, i < 8 -> vld1 i s = true) : vld s = true := by
 simp [vld, h 0 (by omega), h 1 (by omega), h 2 (by omega), h 3 (by omega), h 4 (by omega), h 5 (by omega), h 6 (by omega), h 7 (by omega)]
theorem qbn {p : Nat -> Prop} {k : Nat} (h : ∀ i, i < k -> p i) (hk : p k) : ∀ i, i < k + 1 -> p i := fun i hi => by
 by_cases e : i = k
 ·rw [e]; exact hk
 ·exact h i (by omega)
theorem qe5 (s : Sty) (k : Nat) (hk : k < 8) (h : vld1 k s = false) : chk s = 60 := by
 unfold chk; rw [vld_no s k hk h]; rfl
theorem q0p (s : Sty) (h : ∀ i, i < 8 -> vld1 i s = true) : chk s = 0 := by
 unfold chk; rw [qyf s h]; rfl
end
section
def Sty.cells (s : Sty) : Array Value := #[.int .u8 s.a0, .int .u8 s.a1, .int .u8 s.a2, .int .u8 s.a3, .int .i64 s.a4, .int .i64 s.a5, .int .i64 s.a6, .int .u8 s.a7, .int .i64 s.a8]
def Dcl.cells (d : Dcl) : Array Value := #[.int .u16 (d.n : Int), .int .u8 d.s.a0, .int .u8 d.s.a1, .int .u8 d.s.a2, .int .u8 d.s.a3, .int .i64 d.s.a4, .int .i64 d.s.a5, .int .i64 d.s.a6, .int .u8 d.s.a7, .int .i64 d.s.a8]
theorem uS : Tryz.prog.underlying 44 = some (.struct (Tryz.prog.fieldsOf 44)) := by kernel_rfl
theorem uD : Tryz.prog.underlying 46 = some (.struct (Tryz.prog.fieldsOf 46)) := by kernel_rfl
theorem iS : (Tryz.prog.info? 44).map (·.size) = some 9 := by kernel_rfl
theorem iD : (Tryz.prog.info? 46).map (·.size) = some 10 := by kernel_rfl
theorem alS (w : World) : (Instr.alloc 44 true (.tuple #[])).run Tryz.prog w = .ok (.pointer (some ⟨w.heap.size, 0, none⟩)) (w.alloc (.cells Sty.zero.cells 44)) := by kernel_rfl
theorem bxS (s : Sty) (w : World) : (Instr.box 44 (.agg s.cells)).run Tryz.prog w = .ok (.pointer (some ⟨w.heap.size, 0, none⟩)) (w.alloc (.cells s.cells 44)) := by kernel_rfl
theorem bxD (s : Dcl) (w : World) : (Instr.box 46 (.agg s.cells)).run Tryz.prog w = .ok (.pointer (some ⟨w.heap.size, 0, none⟩)) (w.alloc (.cells s.cells 46)) := by kernel_rfl
theorem sty_eq (c d : Sty) : c = d ↔ c.a0 = d.a0 /\ c.a1 = d.a1 /\ c.a2 = d.a2 /\ c.a3 = d.a3 /\ c.a4 = d.a4 /\ c.a5 = d.a5 /\ c.a6 = d.a6 /\ c.a7 = d.a7 /\ c.a8 = d.a8 := by
 cases c; cases d; simp
theorem dcl_eq (c d : Dcl) : c = d ↔ c.n = d.n /\ c.s = d.s := by
 cases c; cases d; simp
theorem qgk (p q : Prop) [Decidable p] [Decidable q] [Decidable (p /\ q)] : decide (p /\ q) = (decide p && decide q) := by simp
theorem qp8 (c d : Sty) : decide (c = d) = (decide (c.a0 = d.a0) && (decide (c.a1 = d.a1) && (decide (c.a2 = d.a2) && (decide (c.a3 = d.a3) && (decide (c.a4 = d.a4) && (decide (c.a5 = d.a5) && (decide (c.a6 = d.a6) && (decide (c.a7 = d.a7) && decide (c.a8 = d.a8))))))))) := by
 simp only [<- qgk]
 rw [decide_eq_decide]
 exact sty_eq c d
theorem q0j (c d : Dcl) : decide (c = d) = (decide ((c.n : Int) = (d.n : Int)) && decide (c.s = d.s)) := by
 simp only [<- qgk]
 rw [decide_eq_decide]
 rw [Int.natCast_inj]
 exact dcl_eq c d
theorem qz1 (p : Prop) [Decidable p] (x : Bool) (w : World) : (if p then Result.ok (Value.bool x) w else Result.ok (Value.bool false) w) = Result.ok (Value.bool (decide p && x)) w := by
 by_cases h : p <;> simp [h]
theorem qxl (p : Prop) [Decidable p] (x : Bool) (w : World) : (if p then Result.ok (Value.bool x) w else Result.ok (Value.bool true) w) = Result.ok (Value.bool (!decide p || x)) w := by
 by_cases h : p <;> simp [h]
theorem neS (c d : Sty) (w : World) (b : Bool) (hb : decide (c = d) = b) : (binOp .neq 44 (.agg c.cells) (.agg d.cells)).run Tryz.prog w = .ok (.bool (!b)) w := by
 subst hb
 have u1 := Tryz.underlying5
 have u2 := Tryz.underlying3
 have u3 := Tryz.underlying2
 have u4 := Tryz.underlying42
 rw [qp8]
 unfold Sty.cells
 rw [run_neq_struct, show (10000 : Nat) = 9999 + 1 from rfl, run_equalIn_agg w 9999 44 _ _ uS (by kernel_rfl)]
 simp only [Program.fieldsOf, Tryz.underlying44]
 go_simp
 simp only [qxl, Bool.or_false]
end
section
theorem quy (s : Sty) : s.cells.all (·.oneCell') = true := by kernel_rfl
section
variable {ops : Array Oper} {Q : Exit -> Act -> World -> Prop} {a : Act} {w : World} {rest : List Oper} {o o1 o2 : Oper}
theorem ldS (hg : o.guard = none) (x : Operand) (ho : o.op = .load 44 x) (p : Addr) (hx : a.eval x = .pointer (some p)) (s : Sty) (hL : qar w p s.cells)
 (h : wpList Tryz.prog ops Q rest (a.put o.dst (.agg s.cells)) w) : wpList Tryz.prog ops Q (o :: rest) a w := qan hg 44 x ho p hx s.cells _ hL uS rfl iS h
theorem qu8 (hw : Region.wanted o (yielded ops a.tmps) = true) (x : Operand) (ho : o.op = .load 44 x) (p : Addr) (hx : a.eval x = .pointer (some p)) (s : Sty) (hL : qar w p s.cells)
 (h : wpList Tryz.prog ops Q rest (a.put o.dst (.agg s.cells)) w) : wpList Tryz.prog ops Q (o :: rest) a w := qam hw _ rfl _ _ (qat 44 x ho p hx s.cells _ hL uS rfl iS) h
theorem rdS (x : Operand) (ho : o.op = .load 44 x) (p : Addr) (hx : a.eval x = .pointer (some p)) (s : Sty) (hL : qar w p s.cells) : (execOp a.eval o).run Tryz.prog w = .ok (.value (.agg s.cells)) w := qat 44 x ho p hx s.cells _ hL uS rfl iS
theorem alSV (hg : o.guard = none) (ho : o.op = .alloc 44) (h : ∀ w', Below w.heap.size w w' -> Blk w' w.heap.size 44 (Sty.zero).cells -> wpList Tryz.prog ops Q rest (a.put o.dst (.pointer (some ⟨w.heap.size, 0, none⟩))) w') : wpList Tryz.prog ops Q (o :: rest) a w :=
 qao hg 44 ho _ alS h
theorem bxSV (hg : o.guard = none) (x : Operand) (ho : o.op = .box 44 x) (s : Sty) (hx : a.eval x = .agg s.cells) (h : ∀ w', Below w.heap.size w w' -> Blk w' w.heap.size 44 s.cells -> wpList Tryz.prog ops Q rest (a.put o.dst (.pointer (some ⟨w.heap.size, 0, none⟩))) w') : wpList Tryz.prog ops Q (o :: rest) a w :=
 qaq hg 44 x ho s.cells hx (bxS s) h
theorem stS (hg : o.guard = none) (x y : Operand) (ho : o.op = .store 44 x y) (hd : o.dst = none) (g : Nat) (hx : a.eval x = .pointer (some ⟨g, 0, none⟩)) (s : Sty) (hy : a.eval y = .agg s.cells) {t : TypeId} (old : Sty) (hB : Blk w g t old.cells)
 (h : ∀ w', Mod (fun k => k = g) w w' -> Blk w' g t s.cells -> wpList Tryz.prog ops Q rest a w') : wpList Tryz.prog ops Q (o :: rest) a w :=
 qah hg 44 x y ho hd g hx s.cells hy t old.cells hB iS rfl (quy s) h
theorem nwS (hg1 : o1.guard = none) (hg2 : o2.guard = none) (D : Tmp) (hd1 : o1.dst = some D) (ho1 : o1.op = .alloc 44) (y : Operand) (ho2 : o2.op = .store 44 (.tmp D) y) (hd2 : o2.dst = none)
 (s : Sty) (hx : ∀ v, (a.put (some D) v).eval (.tmp D) = v) (hy : ∀ v, (a.put (some D) v).eval y = .agg s.cells)
 (h : ∀ w', Below w.heap.size w w' -> Blk w' w.heap.size 44 s.cells -> wpList Tryz.prog ops Q rest (a.put (some D) (.pointer (some ⟨w.heap.size, 0, none⟩))) w') : wpList Tryz.prog ops Q (o1 :: o2 :: rest) a w :=
 qab hg1 hg2 44 D hd1 ho1 y ho2 hd2 _ alS s.cells hx hy iS rfl (quy s) h
theorem ldD (hg : o.guard = none) (x : Operand) (ho : o.op = .load 46 x) (p : Addr) (hx : a.eval x = .pointer (some p)) (s : Dcl) (hL : qar w p s.cells)
 (h : wpList Tryz.prog ops Q rest (a.put o.dst (.agg s.cells)) w) : wpList Tryz.prog ops Q (o :: rest) a w := qan hg 46 x ho p hx s.cells _ hL uD rfl iD h
theorem bxDV (hg : o.guard = none) (x : Operand) (ho : o.op = .box 46 x) (s : Dcl) (hx : a.eval x = .agg s.cells) (h : ∀ w', Below w.heap.size w w' -> Blk w' w.heap.size 46 s.cells -> wpList Tryz.prog ops Q rest (a.put o.dst (.pointer (some ⟨w.heap.size, 0, none⟩))) w') : wpList Tryz.prog ops Q (o :: rest) a w :=
 qaq hg 46 x ho s.cells hx (bxD s) h
end
theorem Blk.sub {w : World} {g : Nat} {t : TypeId} {d : Dcl} (h : Blk w g t d.cells) : qar w ⟨g, 1, none⟩ d.s.cells := h.part 1 fun j v hv => by
 have hj : j < 9 := (xag hv).1
 match j, hj with
 | 0, _ => exact hv
 | 1, _ => exact hv
 | 2, _ => exact hv
 | 3, _ => exact hv
 | 4, _ => exact hv
 | 5, _ => exact hv
 | 6, _ => exact hv
 | 7, _ => exact hv
 | 8, _ => exact hv
theorem qa4 {w : World} {g : Nat} {t : TypeId} {cs cs' : Array Value} (h : Blk w g t cs) (e : cs = cs') : Blk w g t cs' := e ▸ h
theorem ytake0 (s d : Sty) (g : Nat) (w : World) (hB : Blk w g 44 s.cells) :
 Calls Tryz.prog 185 #[.pointer (some ⟨g, 0, none⟩), .agg d.cells] w fun e w' => e = .returned (.tuple #[]) /\ Mod (fun k => k = g) w w' /\ Blk w' g 44 (qih 0 s d).cells := by
 have c0 : w.cell? ⟨g, 0, none⟩ = some (.int .u8 s.a0) := hB.cell 0
 have f0 : w.frozen? ⟨g, 0, none⟩ = false := hB.frozen 0
 have hl := hB.lt
 have HB := xaa hB
 clear hB
 unfold Sty.cells
 go_enter Tryz.func185, Tryz.ntmps185
 go_wp2
 go_end0
 exact ⟨rfl, (((Mod.refl (fun k => k = g) w)).setCell (p := ⟨g, 0, none⟩) (.inl rfl) _).alloc _, qa4 (((HB.out).set_ 0 _).alloc _) (by simp [Sty.cells, qih])⟩
theorem ytake1 (s d : Sty) (g : Nat) (w : World) (hB : Blk w g 44 s.cells) :
 Calls Tryz.prog 188 #[.pointer (some ⟨g, 0, none⟩), .agg d.cells] w fun e w' => e = .returned (.tuple #[]) /\ Mod (fun k => k = g) w w' /\ Blk w' g 44 (qih 1 s d).cells := by
 have c1 : w.cell? ⟨g, 1, none⟩ = some (.int .u8 s.a1) := hB.cell 1
 have f1 : w.frozen? ⟨g, 1, none⟩ = false := hB.frozen 1
 have hl := hB.lt
 have HB := xaa hB
 clear hB
 unfold Sty.cells
 go_enter Tryz.func188, Tryz.ntmps188
 go_wp2
 go_end0
 exact ⟨rfl, (((Mod.refl (fun k => k = g) w)).setCell (p := ⟨g, 1, none⟩) (.inl rfl) _).alloc _, qa4 (((HB.out).set_ 1 _).alloc _) (by simp [Sty.cells, qih])⟩
theorem ytake2 (s d : Sty) (g : Nat) (w : World) (hB : Blk w g 44 s.cells) :
 Calls Tryz.prog 191 #[.pointer (some ⟨g, 0, none⟩), .agg d.cells] w fun e w' => e = .returned (.tuple #[]) /\ Mod (fun k => k = g) w w' /\ Blk w' g 44 (qih 2 s d).cells := by
 have c2 : w.cell? ⟨g, 2, none⟩ = some (.int .u8 s.a2) := hB.cell 2
 have f2 : w.frozen? ⟨g, 2, none⟩ = false := hB.frozen 2
 have hl := hB.lt
 have HB := xaa hB
 clear hB
 unfold Sty.cells
 go_enter Tryz.func191, Tryz.ntmps191
 go_wp2
 go_end0
 exact ⟨rfl, (((Mod.refl (fun k => k = g) w)).setCell (p := ⟨g, 2, none⟩) (.inl rfl) _).alloc _, qa4 (((HB.out).set_ 2 _).alloc _) (by simp [Sty.cells, qih])⟩
theorem ytake3 (s d : Sty) (g : Nat) (w : World) (hB : Blk w g 44 s.cells) :
 Calls Tryz.prog 194 #[.pointer (some ⟨g, 0, none⟩), .agg d.cells] w fun e w' => e = .returned (.tuple #[]) /\ Mod (fun k => k = g) w w' /\ Blk w' g 44 (qih 3 s d).cells := by
 have c3 : w.cell? ⟨g, 3, none⟩ = some (.int .u8 s.a3) := hB.cell 3
 have f3 : w.frozen? ⟨g, 3, none⟩ = false := hB.frozen 3
 have hl := hB.lt
 have HB := xaa hB
 clear hB
 unfold Sty.cells
 go_enter Tryz.func194, Tryz.ntmps194
 go_wp2
 go_end0
 exact ⟨rfl, (((Mod.refl (fun k => k = g) w)).setCell (p := ⟨g, 3, none⟩) (.inl rfl) _).alloc _, qa4 (((HB.out).set_ 3 _).alloc _) (by simp [Sty.cells, qih])⟩
theorem ytake4 (s d : Sty) (g : Nat) (w : World) (hB : Blk w g 44 s.cells) :
 Calls Tryz.prog 197 #[.pointer (some ⟨g, 0, none⟩), .agg d.cells] w fun e w' => e = .returned (.tuple #[]) /\ Mod (fun k => k = g) w w' /\ Blk w' g 44 (qih 4 s d).cells := by
 have c4 : w.cell? ⟨g, 4, none⟩ = some (.int .i64 s.a4) := hB.cell 4
 have f4 : w.frozen? ⟨g, 4, none⟩ = false := hB.frozen 4
 have hl := hB.lt
 have HB := xaa hB
 clear hB
 unfold Sty.cells
 go_enter Tryz.func197, Tryz.ntmps197
 go_wp2
 go_end0
 exact ⟨rfl, (((Mod.refl (fun k => k = g) w)).setCell (p := ⟨g, 4, none⟩) (.inl rfl) _).alloc _, qa4 (((HB.out).set_ 4 _).alloc _) (by simp [Sty.cells, qih])⟩
theorem ytake5 (s d : Sty) (g : Nat) (w : World) (hB : Blk w g 44 s.cells) :
 Calls Tryz.prog 200 #[.pointer (some ⟨g, 0, none⟩), .agg d.cells] w fun e w' => e = .returned (.tuple #[]) /\ Mod (fun k => k = g) w w' /\ Blk w' g 44 (qih 5 s d).cells := by
 have c5 : w.cell? ⟨g, 5, none⟩ = some (.int .i64 s.a5) := hB.cell 5
 have f5 : w.frozen? ⟨g, 5, none⟩ = false := hB.frozen 5
 have hl := hB.lt
 have HB := xaa hB
 clear hB
 unfold Sty.cells
 go_enter Tryz.func200, Tryz.ntmps200
 go_wp2
 go_end0
 exact ⟨rfl, (((Mod.refl (fun k => k = g) w)).setCell (p := ⟨g, 5, none⟩) (.inl rfl) _).alloc _, qa4 (((HB.out).set_ 5 _).alloc _) (by simp [Sty.cells, qih])⟩
theorem ytake6 (s d : Sty) (g : Nat) (w : World) (hB : Blk w g 44 s.cells) :
 Calls Tryz.prog 204 #[.pointer (some ⟨g, 0, none⟩), .agg d.cells] w fun e w' => e = .returned (.tuple #[]) /\ Mod (fun k => k = g) w w' /\ Blk w' g 44 (qih 6 s d).cells := by
 have c6 : w.cell? ⟨g, 6, none⟩ = some (.int .i64 s.a6) := hB.cell 6
 have f6 : w.frozen? ⟨g, 6, none⟩ = false := hB.frozen 6
 have hl := hB.lt
 have HB := xaa hB
 clear hB
 unfold Sty.cells
 go_enter Tryz.func204, Tryz.ntmps204
 go_wp2
 go_end0
 exact ⟨rfl, (((Mod.refl (fun k => k = g) w)).setCell (p := ⟨g, 6, none⟩) (.inl rfl) _).alloc _, qa4 (((HB.out).set_ 6 _).alloc _) (by simp [Sty.cells, qih])⟩
theorem ytake7 (s d : Sty) (g : Nat) (w : World) (hB : Blk w g 44 s.cells) :
 Calls Tryz.prog 207 #[.pointer (some ⟨g, 0, none⟩), .agg d.cells] w fun e w' => e = .returned (.tuple #[]) /\ Mod (fun k => k = g) w w' /\ Blk w' g 44 (qih 7 s d).cells := by
 have c7 : w.cell? ⟨g, 7, none⟩ = some (.int .u8 s.a7) := hB.cell 7
 have f7 : w.frozen? ⟨g, 7, none⟩ = false := hB.frozen 7
 have c8 : w.cell? ⟨g, 8, none⟩ = some (.int .i64 s.a8) := hB.cell 8
 have f8 : w.frozen? ⟨g, 8, none⟩ = false := hB.frozen 8
 have hl := hB.lt
 have HB := xaa hB
 clear hB
 unfold Sty.cells
 go_enter Tryz.func207, Tryz.ntmps207
 go_wp2
 go_region
 go_wp2
 go_end0
 exact ⟨rfl, (((((Mod.refl (fun k => k = g) w)).setCell (p := ⟨g, 7, none⟩) (.inl rfl) _).setCell (p := ⟨g, 8, none⟩) (.inl rfl) _).alloc _).drew, qa4 (((((HB.out).set_ 7 _).set_ 8 _).alloc _).drewN 1) (by simp [Sty.cells, qih])⟩
theorem qi6 (n : Int) (w : World) :
 Calls Tryz.prog 203 #[.int .i64 n] w fun e w' => e = .returned (.bool (decide (0 <= n /\ n <= 1073741824))) /\ w = w' := by
 by_cases h0 : 0 <= n
 ·by_cases h1 : n <= 1073741824
  ·go_enter Tryz.func203, Tryz.ntmps203
   go_wp2
   go_ret
   exact ⟨qak (by simp <;> omega), rfl⟩
  ·go_enter Tryz.func203, Tryz.ntmps203
   go_wp2
   go_ret
   exact ⟨qak (by simp <;> omega), rfl⟩
 ·go_enter Tryz.func203, Tryz.ntmps203
  go_wp2
  go_ret
  exact ⟨qak (by simp <;> omega), rfl⟩
theorem qx8 (s : Sty) (w : World) :
 Calls Tryz.prog 184 #[.agg s.cells] w fun e w' => e = .returned (.bool (vld1 0 s)) /\ Below w.heap.size w w' := by
 unfold Sty.cells vld1
 go_enter Tryz.func184, Tryz.ntmps184
 go_wp2
 go_ret
 exact ⟨rfl, xar _ _⟩
theorem qx7 (s : Sty) (w : World) :
 Calls Tryz.prog 187 #[.agg s.cells] w fun e w' => e = .returned (.bool (vld1 1 s)) /\ Below w.heap.size w w' := by
 unfold Sty.cells vld1
 go_enter Tryz.func187, Tryz.ntmps187
 go_wp2
 go_ret
 exact ⟨rfl, xar _ _⟩
theorem qx6 (s : Sty) (w : World) :
 Calls Tryz.prog 190 #[.agg s.cells] w fun e w' => e = .returned (.bool (vld1 2 s)) /\ Below w.heap.size w w' := by
 unfold Sty.cells vld1
 go_enter Tryz.func190, Tryz.ntmps190
 go_wp2
 go_ret
 exact ⟨rfl, xar _ _⟩
theorem qx5 (s : Sty) (w : World) :
 Calls Tryz.prog 193 #[.agg s.cells] w fun e w' => e = .returned (.bool (vld1 3 s)) /\ Below w.heap.size w w' := by
 unfold Sty.cells vld1
 go_enter Tryz.func193, Tryz.ntmps193
 go_wp2
 go_ret
 exact ⟨rfl, xar _ _⟩
theorem qx4 (s : Sty) (w : World) :
 Calls Tryz.prog 196 #[.agg s.cells] w fun e w' => e = .returned (.bool (vld1 4 s)) /\ Below w.heap.size w w' := by
 unfold Sty.cells vld1
 by_cases h0 : 0 <= s.a4
 ·by_cases h1 : s.a4 <= 64
  ·go_enter Tryz.func196, Tryz.ntmps196
   go_wp2
   go_ret
   exact ⟨qak (by first | (rw [decide_eq_true (by omega)]; done) | (rw [decide_eq_false (by omega)]; done) | (simp <;> omega)), xar _ _⟩
  ·go_enter Tryz.func196, Tryz.ntmps196
   go_wp2
   go_ret
   exact ⟨qak (by first | (rw [decide_eq_true (by omega)]; done) | (rw [decide_eq_false (by omega)]; done) | (simp <;> omega)), xar _ _⟩
 ·go_enter Tryz.func196, Tryz.ntmps196
  go_wp2
  go_ret
  exact ⟨qak (by first | (rw [decide_eq_true (by omega)]; done) | (rw [decide_eq_false (by omega)]; done) | (simp <;> omega)), xar _ _⟩
theorem qx3 (s : Sty) (w : World) :
 Calls Tryz.prog 199 #[.agg s.cells] w fun e w' => e = .returned (.bool (vld1 5 s)) /\ Below w.heap.size w w' := by
 unfold Sty.cells vld1
 by_cases h0 : 0 <= s.a5
 ·by_cases h1 : s.a5 < 64
  ·go_enter Tryz.func199, Tryz.ntmps199
   go_wp2
   go_ret
   exact ⟨qak (by first | (rw [decide_eq_true (by omega)]; done) | (rw [decide_eq_false (by omega)]; done) | (simp <;> omega)), xar _ _⟩
  ·go_enter Tryz.func199, Tryz.ntmps199
   go_wp2
   go_ret
   exact ⟨qak (by first | (rw [decide_eq_true (by omega)]; done) | (rw [decide_eq_false (by omega)]; done) | (simp <;> omega)), xar _ _⟩
 ·go_enter Tryz.func199, Tryz.ntmps199
  go_wp2
  go_ret
  exact ⟨qak (by first | (rw [decide_eq_true (by omega)]; done) | (rw [decide_eq_false (by omega)]; done) | (simp <;> omega)), xar _ _⟩
theorem qx2 (s : Sty) (w : World) :
 Calls Tryz.prog 202 #[.agg s.cells] w fun e w' => e = .returned (.bool (vld1 6 s)) /\ Below w.heap.size w w' := by
 have C := xaa (qi6 s.a6)
 unfold Sty.cells vld1
 obtain ⟨b, hb⟩ : ∃ b, decide (0 <= s.a6 /\ s.a6 <= 1073741824) = b := ⟨_, rfl⟩
 simp only [hb] at C |-
 clear hb
 go_enter Tryz.func202, Tryz.ntmps202
 go_wp2_with fail
 refine (C.out _).mono ?_
 rintro e w1 ⟨rfl, rfl⟩
 go_wp2_with fail
 go_ret
 exact ⟨rfl, xar _ _⟩
theorem qx1 (s : Sty) (w : World) :
 Calls Tryz.prog 206 #[.agg s.cells] w fun e w' => e = .returned (.bool (vld1 7 s)) /\ Below w.heap.size w w' := by
 have C := xaa (qi6 s.a8)
 have e0 : vld1 7 s = (decide (s.a7 <= 2) && decide (0 <= s.a8 /\ s.a8 <= 1073741824)) := by unfold vld1; simp only [qgk]
 rw [e0]
 clear e0
 unfold Sty.cells
 obtain ⟨b, hb⟩ : ∃ b, decide (0 <= s.a8 /\ s.a8 <= 1073741824) = b := ⟨_, rfl⟩
 rw [hb] at C |-
 clear hb
 by_cases h0 : s.a7 <= 2
 ·go_enter Tryz.func206, Tryz.ntmps206
  go_wp2_with fail
  refine (C.out _).mono ?_
  rintro e w1 ⟨rfl, rfl⟩
  go_wp2_with fail
  go_ret
  exact ⟨qak (by rw [decide_eq_true (by omega)]; rfl), xar _ _⟩
 ·go_enter Tryz.func206, Tryz.ntmps206
  go_wp2_with fail
  go_ret
  exact ⟨qak (by rw [decide_eq_false (by omega)]; rfl), xar _ _⟩
end
end Go.Proofs.YtmceblkjbpbcoaaGreatDoor
