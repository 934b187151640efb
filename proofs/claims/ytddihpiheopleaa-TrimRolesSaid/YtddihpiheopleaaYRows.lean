/- Stores of structs at an offset of a block; blocks and slices whose elements are structs, read as lists. No function of the program is named. No walk. -/
import Derived.Test.YtddihpiheopleaaYLaws
import Derived.Test.YtddihpiheopleaaRowN
import Derived.Laws.MakeOwn
namespace Go.Proofs.Ytddihpiheopleaa
open Go.ChangeShapes Go.WideShapes Go.ChangeAt Go.RowKit

theorem setRow_self (w : World) (g : Nat) (t : TypeId) (cur : Array Value) (hg : w.heap[g]? = some (.cells cur t (0, 0))) : w.setRow g cur = w := by
  have hlt : g < w.heap.size := (Array.getElem?_eq_some_iff.1 hg).1
  have hv : w.heap[g] = .cells cur t (0, 0) := (Array.getElem?_eq_some_iff.1 hg).2
  unfold World.setRow
  cases w with
  | mk heap tape drawn os output =>
    congr 1
    apply Array.ext
    · simp
    · intro k h1 h2
      simp only [Array.getElem_modify]
      split
      · rename_i hk; subst hk; simp at hv; simp [hv]
      · rfl

/-- cs with xs at o -/
def spl (cs : Array Value) (o : Nat) (xs : List Value) : Array Value := (cs.toList.take o ++ (xs ++ cs.toList.drop (o + xs.length))).toArray
theorem spl_nil (cs : Array Value) (o : Nat) : spl cs o [] = cs := by
  unfold spl
  simp
theorem spl_size (cs : Array Value) (o : Nat) (xs : List Value) (h : o + xs.length ≤ cs.size) : (spl cs o xs).size = cs.size := by
  unfold spl
  simp
  omega
theorem spl_in (cs : Array Value) (o : Nat) (xs : List Value) (h : o + xs.length ≤ cs.size) (j : Nat) (hj : j < xs.length) : (spl cs o xs)[o + j]? = xs[j]? := by
  unfold spl
  have h1 : (cs.toList.take o).length = o := by simp; omega
  rw [List.getElem?_toArray, List.getElem?_append_right (by omega), h1, show o + j - o = j by omega, List.getElem?_append_left hj]
theorem spl_out (cs : Array Value) (o : Nat) (xs : List Value) (h : o + xs.length ≤ cs.size) (i : Nat) (hi : i < o ∨ o + xs.length ≤ i) : (spl cs o xs)[i]? = cs[i]? := by
  unfold spl
  have h1 : (cs.toList.take o).length = o := by simp; omega
  rw [List.getElem?_toArray]
  rcases hi with hi | hi
  · rw [List.getElem?_append_left (by omega), List.getElem?_take_of_lt hi]
    simp
  · rw [List.getElem?_append_right (by omega), h1, List.getElem?_append_right (by omega), List.getElem?_drop, show o + xs.length + (i - o - xs.length) = i by omega]
    simp
theorem spl_step (cs : Array Value) (o : Nat) (v : Value) (xs : List Value) (h : o + (xs.length + 1) ≤ cs.size) : spl (cs.setIfInBounds o v) (o + 1) xs = spl cs o (v :: xs) := by
  apply Array.ext_getElem?
  intro i
  have hs : (cs.setIfInBounds o v).size = cs.size := by simp
  by_cases hi : i < o
  · rw [spl_out _ _ _ (by rw [hs]; omega) i (.inl (by omega)), spl_out _ _ _ (by simp; omega) i (.inl hi), Array.getElem?_setIfInBounds_ne (by omega)]
  · by_cases h2 : i = o
    · subst h2
      rw [spl_out _ _ _ (by rw [hs]; omega) i (.inl (by omega))]
      have := spl_in cs i (v :: xs) (by simp; omega) 0 (by simp)
      rw [Nat.add_zero] at this
      rw [this, Array.getElem?_setIfInBounds_self_of_lt (by omega)]
      rfl
    · by_cases h3 : i < o + 1 + xs.length
      · have e1 := spl_in (cs.setIfInBounds o v) (o + 1) xs (by rw [hs]; omega) (i - (o + 1)) (by omega)
        have e2 := spl_in cs o (v :: xs) (by simp; omega) (i - o) (by simp; omega)
        rw [show o + 1 + (i - (o + 1)) = i by omega] at e1
        rw [show o + (i - o) = i by omega, show i - o = (i - (o + 1)) + 1 by omega, List.getElem?_cons_succ] at e2
        rw [e1, e2]
      · rw [spl_out _ _ _ (by rw [hs]; omega) i (.inr (by omega)), spl_out _ _ _ (by simp; omega) i (.inr (by simp; omega)), Array.getElem?_setIfInBounds_ne (by omega)]

section
variable {P : Program} {ops : Array Oper} {Q : Exit → Act → World → Prop} {a : Act} {w : World} {rest : List Oper} {o o1 o2 : Oper}

theorem run_storeCells_off (g off : Nat) (t : TypeId) : ∀ (vs : List Value) (i : Nat) (cur : Array Value) (w : World), w.heap[g]? = some (.cells cur t (0, 0)) → off + i + vs.length ≤ cur.size → (∀ v ∈ vs, v.oneCell' = true) →
    (storeCells ⟨g, off, none⟩ vs i).run P w = .ok () (w.setRow g (spl cur (off + i) vs))
  | [], i, cur, w, hg, _, _ => by
    rw [spl_nil, setRow_self w g t cur hg]
    rfl
  | v :: vs, i, cur, w, hg, hl, h1 => by
    have hi : off + i < cur.size := by simp at hl; omega
    have hadd : (⟨g, off, none⟩ : Addr).add i = ⟨g, off + i, none⟩ := by unfold Addr.add; split <;> simp_all
    have hcell : w.cell? ⟨g, off + i, none⟩ = some cur[off + i] := by simp [World.cell?, hg, hi]
    have hfro : w.frozen? ⟨g, off + i, none⟩ = false := by simp [World.frozen?, hg]
    have hst : (store ((⟨g, off, none⟩ : Addr).add i) v).run P w = .ok () (w.setRow g (cur.setIfInBounds (off + i) v)) := by
      rw [hadd, run_store P w _ v _ (h1 v (by simp)), hcell]
      simp [hfro, setCell_eq_setRow w g (off + i) cur t (0, 0) v hg]
    have ih := run_storeCells_off g off t vs (i + 1) (cur.setIfInBounds (off + i) v) (w.setRow g (cur.setIfInBounds (off + i) v)) (setRow_heap w g cur _ t _ hg) (by simp at hl ⊢; omega) (fun x hx => h1 x (by simp [hx]))
    simp only [storeCells, Sem.run_bind, hst, Result.andThen_ok, ih, setRow_setRow]
    rw [← Nat.add_assoc, spl_step cur (off + i) v vs (by simp at hl; omega)]

/-- a store of a struct at an offset of a block -/
theorem wp_storeO {K : Act → World → Prop} (ty : TypeId) (x y : Operand) (ho : o.op = .store ty x y) (hd : o.dst = none) (g off : Nat) (hx : a.eval x = .pointer (some ⟨g, off, none⟩)) (cs : Array Value) (hy : a.eval y = .agg cs)
    (t : TypeId) (old : Array Value) (hB : Blk w g t old) (hi : (P.info? ty).map (·.size) = some cs.size) (hold : off + cs.size ≤ old.size) (h1 : cs.all (·.oneCell') = true)
    (h : ∀ w', Mod (fun k => k = g) w w' → Blk w' g t (spl old off cs.toList) → K a w') : o.wp P a w K Q := by
  have hrun := run_storeCells_off (P := P) g off t cs.toList 0 old w hB (by simpa using hold) (fun v hv => (Array.all_eq_true_iff_forall_mem.1 h1) v (by simpa using hv))
  rw [Nat.add_zero] at hrun
  have hv : (storeVar ty ⟨g, off, none⟩ (.agg cs)).run P w = .ok () (w.setRow g (spl old off cs.toList)) := by
    cases hq : P.info? ty with
    | none => simp [hq] at hi
    | some i =>
      have hs : cs.size = i.size := by simp [hq] at hi; omega
      simp [storeVar, sizeOf, typeInfo, hq, Value.cells, hs, hrun]
  unfold Oper.wp execOp
  simp only [ho, hx, hy, Instr.storeAt, Instr.sureAddr, Sem.run_bind, Sem.run_pure, Result.andThen_ok, hv]
  show K (a.put o.dst undef) _
  rw [hd]
  exact h _ (mod_setRow _ _ _) (setRow_heap _ _ _ _ _ _ hB)
theorem wpList_storeO (hg : o.guard = none) (ty : TypeId) (x y : Operand) (ho : o.op = .store ty x y) (hd : o.dst = none) (g off : Nat) (hx : a.eval x = .pointer (some ⟨g, off, none⟩)) (cs : Array Value) (hy : a.eval y = .agg cs)
    (t : TypeId) (old : Array Value) (hB : Blk w g t old) (hi : (P.info? ty).map (·.size) = some cs.size) (hold : off + cs.size ≤ old.size) (h1 : cs.all (·.oneCell') = true)
    (h : ∀ w', Mod (fun k => k = g) w w' → Blk w' g t (spl old off cs.toList) → wpList P ops Q rest a w') : wpList P ops Q (o :: rest) a w :=
  wpList_plain hg fun _ hK => wp_storeO ty x y ho hd g off hx cs hy t old hB hi hold h1 fun w' m B => hK _ _ (h w' m B)
end

/-! ### blocks of structs -/
/-- block g holds the structs l, of k cells each -/
def Strs (w : World) (g : Nat) (t : TypeId) (k : Nat) (l : List (Array Value)) : Prop :=
  ∃ cur, Blk w g t cur ∧ cur.size = l.length * k ∧ ∀ i x, l[i]? = some x → x.size = k ∧ ∀ j v, x[j]? = some v → cur[i * k + j]? = some v
theorem Strs.keep {S : Nat → Prop} {w w' : World} {g : Nat} {t : TypeId} {k : Nat} {l : List (Array Value)} (h : Strs w g t k l) (m : Mod S w w') (hS : ¬ S g) : Strs w' g t k l := by
  obtain ⟨cur, hB, h2⟩ := h
  exact ⟨cur, hB.keep m hS, h2⟩
theorem Strs.below {w w' : World} {g : Nat} {t : TypeId} {k : Nat} {l : List (Array Value)} (h : Strs w g t k l) (b : Below w.heap.size w w') : Strs w' g t k l := h.keep (S := fun _ => False) (Mod.of_below b) id
theorem Strs.lt {w : World} {g : Nat} {t : TypeId} {k : Nat} {l : List (Array Value)} (h : Strs w g t k l) : g < w.heap.size := by
  obtain ⟨cur, hB, _⟩ := h
  exact hB.lt
theorem Strs.lies {w : World} {g : Nat} {t : TypeId} {k : Nat} {l : List (Array Value)} (h : Strs w g t k l) {i : Nat} {x : Array Value} (hi : l[i]? = some x) : Lies w ⟨g, i * k, none⟩ x := by
  obtain ⟨cur, hB, _, h3⟩ := h
  exact hB.part (i * k) (h3 i x hi).2
theorem row_le {i n k : Nat} (h : i < n) : i * k + k ≤ n * k := by
  have := Nat.mul_le_mul_right k (show i + 1 ≤ n by omega)
  rw [Nat.succ_mul] at this
  exact this
theorem row_apart {i j k a : Nat} (h : i ≠ j) (ha : a < k) : i * k + a < j * k ∨ j * k + k ≤ i * k + a := by
  rcases Nat.lt_or_ge i j with h1 | h1
  · left
    have := row_le (k := k) h1
    omega
  · right
    have := row_le (k := k) (show j < i by omega)
    omega
/-- what a store at an element leaves -/
theorem Strs.set_ {w' : World} {g : Nat} {t : TypeId} {k : Nat} {l : List (Array Value)} {cur : Array Value} (h2 : cur.size = l.length * k) (h3 : ∀ i x, l[i]? = some x → x.size = k ∧ ∀ j v, x[j]? = some v → cur[i * k + j]? = some v)
    {i : Nat} (hi : i < l.length) {x : Array Value} (hx : x.size = k) (hB : Blk w' g t (spl cur (i * k) x.toList)) : Strs w' g t k (l.set i x) := by
  have hle : i * k + x.toList.length ≤ cur.size := by
    rw [h2, Array.length_toList, hx]
    exact row_le hi
  refine ⟨_, hB, by rw [spl_size _ _ _ hle, h2, List.length_set], fun j y hj => ?_⟩
  by_cases e : j = i
  · subst e
    rw [List.getElem?_set_self hi] at hj
    injection hj with hj
    subst hj
    refine ⟨hx, fun q v hq => ?_⟩
    have hql := (Array.getElem?_eq_some_iff.1 hq).1
    rw [spl_in _ _ _ hle q (by simpa using hql)]
    simpa using hq
  · rw [List.getElem?_set_ne (fun h => e h.symm)] at hj
    obtain ⟨h4, h5⟩ := h3 j y hj
    refine ⟨h4, fun q v hq => ?_⟩
    have hql := (Array.getElem?_eq_some_iff.1 hq).1
    rw [spl_out _ _ _ hle (j * k + q) (by rw [Array.length_toList, hx]; exact row_apart e (by omega))]
    exact h5 q v hq
/-- a block of structs as a slice -/
theorem Strs.row {w : World} {g : Nat} {t : TypeId} {k n c : Nat} {l : List (Array Value)} (h : Strs w g t k l) (hn : l.length = n) : RowN k (fun b => b < g) w (.slice (some ⟨g, 0, none⟩) n c) (l.map Array.toList) := by
  subst hn
  refine .inr ⟨⟨g, 0, none⟩, c, by rw [List.length_map], .inr ⟨h.lt, Nat.lt_irrefl _⟩, fun i x hx j u hu => ?_⟩
  rw [List.getElem?_map] at hx
  cases hl : l[i]? with
  | none => rw [hl] at hx; cases hx
  | some y =>
    rw [hl] at hx
    injection hx with hx
    subst hx
    obtain ⟨cur, hB, _, h3⟩ := h
    have : (⟨g, 0, none⟩ : Addr).add (i * k + j) = ⟨g, i * k + j, none⟩ := by unfold Addr.add; split <;> simp_all
    rw [this, hB.cell]
    exact (h3 i y hl).2 j u (by simpa using hu)
end Go.Proofs.Ytddihpiheopleaa
