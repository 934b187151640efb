/- Arguments that are slices of integers, opened to rows of cells, for any layer. No walk. -/
import Derived.Test.YtnoenccpbbkdeaaBase
import Derived.SliceStrings
import Derived.ChangeOld
import Derived.Deep.Slices
import Derived.Deep.Fields
import Derived.Test.YtnoenccpbbkdeaaGB
import Derived.Laws.MakeOwn
import Derived.Maps.AppendAt
import Derived.OwnWalkIn
namespace Go.Proofs.Ytnoenccpbbkdeaa
open Go.ChangeShapes Go.WideShapes Go.ChangeAt Go.RowKit

theorem row_of_cells {W : World} {a : Addr} {len cap : Nat} {xs : List Value} (hl : xs.length = len) (hc : ∀ j u, xs[j]? = some u → W.cell? (a.add j) = some u) : Row (fun b => W.heap.size ≤ b) W (.slice (some a) len cap) xs := by
  refine .inr ⟨a, cap, by rw [hl], ?_, hc⟩
  cases xs with
  | nil => exact .inl rfl
  | cons x r =>
    have h0 := hc 0 x rfl
    have := World.block_lt_of_cell? _ _ h0
    rw [block_of_add] at this
    exact .inr ⟨this, by omega⟩

section
variable {H : Type} {enc : TypeId × Value → H} {P : Program} {W : World} {r : Reach} {b0 : Nat} {t e : TypeId} {v : Value} {d : DataW H} {ps : List MemPlace}

theorem open_row_ints {k : IntKind} (ht : P.underlying t = some (.slice e)) (he : P.underlying e = some (.int k)) (hC : P.cellsOf e = 1) (hv : Value.okWide P W r b0 t v) (h : DataW.Trod enc P W 0 (fun _ => true) true t v d ps) :
    ∃ zs : List Int, Row (fun b => W.heap.size ≤ b) W v (zs.map (Value.int k)) ∧ (∀ z ∈ zs, (Lit.int k z).wf = true) ∧ zs.length ≤ maxLen := by
  obtain ⟨a, len, cap, rfl⟩ := okWide_slice ht hv
  obtain ⟨fuel, hf⟩ := h
  rcases open_ints ht he hC hf with ⟨hcs, _⟩ | ⟨x, l, c, zs, hcs, _, hl, hm, hz, _, hcell, hwz⟩
  · simp [Value.cells] at hcs
    obtain ⟨rfl, rfl, rfl⟩ := hcs
    exact ⟨[], .inl ⟨rfl, rfl⟩, by simp, by simp⟩
  · simp [Value.cells] at hcs
    obtain ⟨rfl, rfl, rfl⟩ := hcs
    simp at hz
    refine ⟨zs.take len, row_of_cells (by simp; omega) (fun j u hj => ?_), fun z hz' => hwz z (List.mem_of_mem_take hz'), by simp; omega⟩
    rw [List.map_take, List.getElem?_take] at hj
    split at hj
    · rename_i hjl
      have hjz : j < zs.length := by omega
      rw [List.getElem?_map, List.getElem?_eq_getElem hjz] at hj
      simp at hj
      subst hj
      rw [hcell j hjz]
      simp [List.getD, hjz]
    · cases hj

end
end Go.Proofs.Ytnoenccpbbkdeaa

/- Slices whose elements are structs of k plain cells, read as lists of rows; structs of plain cells by value; parts of slices of plain cells. For any layer. No walk. -/
namespace Go.Proofs.Ytnoenccpbbkdeaa
open Go.ChangeShapes Go.WideShapes Go.ChangeAt Go.RowKit Go.Deep

/-- v is a slice whose elements have k cells each and read as xs; it lies in no block of S -/
def RowN (k : Nat) (S : Nat → Prop) (w : World) (v : Value) (xs : List (List Value)) : Prop :=
  (v = .slice none 0 0 ∧ xs = []) ∨ ∃ a cap, v = .slice (some a) xs.length cap ∧ (xs = [] ∨ (a.block < w.heap.size ∧ ¬ S a.block)) ∧ ∀ i x, xs[i]? = some x → ∀ j u, x[j]? = some u → w.cell? (a.add (i * k + j)) = some u

theorem RowN.form {k : Nat} {S : Nat → Prop} {w : World} {v : Value} {xs : List (List Value)} (h : RowN k S w v xs) : ∃ A c, v = .slice A xs.length c := by
  rcases h with ⟨rfl, rfl⟩ | ⟨a, cap, rfl, _⟩
  · exact ⟨_, _, rfl⟩
  · exact ⟨_, _, rfl⟩

theorem RowN.keep {k : Nat} {S T : Nat → Prop} {w w' : World} {v : Value} {xs : List (List Value)} (h : RowN k S w v xs) (m : Mod T w w') (hT : ∀ b, b < w.heap.size → T b → S b) : RowN k S w' v xs := by
  rcases h with h | ⟨a, cap, rfl, hb, hc⟩
  · exact .inl h
  · refine .inr ⟨a, cap, rfl, ?_, fun i x hx j u hu => ?_⟩
    · rcases hb with hb | ⟨hb, hS⟩
      · exact .inl hb
      · exact .inr ⟨Nat.lt_of_lt_of_le hb m.size, hS⟩
    · rcases hb with rfl | ⟨hb, hS⟩
      · simp at hx
      · rw [m.cell (by rw [block_of_add]; exact hb) (by rw [block_of_add]; exact fun ht => hS (hT _ hb ht))]
        exact hc i x hx j u hu
theorem RowN.mono {k : Nat} {S T : Nat → Prop} {w : World} {v : Value} {xs : List (List Value)} (h : RowN k S w v xs) (hT : ∀ b, b < w.heap.size → T b → S b) : RowN k T w v xs := by
  rcases h with h | ⟨a, cap, rfl, hb, hc⟩
  · exact .inl h
  · refine .inr ⟨a, cap, rfl, ?_, hc⟩
    rcases hb with hb | ⟨hb, hS⟩
    · exact .inl hb
    · exact .inr ⟨hb, fun ht => hS (hT _ hb ht)⟩
theorem RowN.below {k : Nat} {S : Nat → Prop} {w w' : World} {v : Value} {xs : List (List Value)} (h : RowN k S w v xs) (b : Below w.heap.size w w') : RowN k S w' v xs := h.keep (T := fun _ => False) (Mod.of_below b) (fun _ _ h => h.elim)

/-- an element's cells, by plain addresses, in a later world -/
theorem RowN.get {k : Nat} {S : Nat → Prop} {w wx : World} {v : Value} {xs : List (List Value)} (h : RowN k S w v xs) (b : Below w.heap.size w wx) {i : Nat} {x : List Value} (hi : xs[i]? = some x) (hx : 0 < x.length) :
    ∃ a cap o, v = .slice (some a) xs.length cap ∧ a.block < w.heap.size ∧ ¬ S a.block ∧ a.add (i * k) = ⟨a.block, o, none⟩ ∧ ∀ j u, x[j]? = some u → wx.cell? ⟨a.block, o + j, none⟩ = some u := by
  rcases h with ⟨_, rfl⟩ | ⟨a, cap, rfl, hb, hc⟩
  · simp at hi
  · have hb2 : a.block < w.heap.size ∧ ¬ S a.block := by
      rcases hb with rfl | hb
      · simp at hi
      · exact hb
    have h0 := hc i x hi 0 _ (List.getElem?_eq_getElem hx)
    rw [Nat.add_zero] at h0
    have hs := World.cell?_spot h0
    have hbk := block_of_add a (i * k)
    obtain ⟨q, hq⟩ : ∃ q, a.add (i * k) = q := ⟨_, rfl⟩
    rw [hq] at hs hbk
    obtain ⟨bl, o, sp⟩ := q
    simp only at hs hbk
    subst hs hbk
    refine ⟨a, cap, o, rfl, hb2.1, hb2.2, hq, fun j u hj => ?_⟩
    have := hc i x hi j u hj
    rw [← add_add, hq, Addr.add_lit] at this
    rw [b.cell (p := ⟨a.block, o + j, none⟩) hb2.1]
    exact this

/-- a list whose members are each of the form f y -/
theorem list_choose {α β : Type} (f : β → α) (p : β → Prop) : ∀ xs : List α, (∀ x ∈ xs, ∃ y, x = f y ∧ p y) → ∃ ys : List β, xs = ys.map f ∧ ∀ y ∈ ys, p y
  | [], _ => ⟨[], rfl, fun _ h => by cases h⟩
  | x :: xs, h => by
    obtain ⟨y, rfl, hy⟩ := h x (List.mem_cons_self ..)
    obtain ⟨ys, rfl, hys⟩ := list_choose f p xs fun z hz => h z (List.mem_cons_of_mem _ hz)
    exact ⟨y :: ys, rfl, fun z hz => (List.mem_cons.1 hz).elim (fun e => e ▸ hy) (hys z)⟩

/-! ### parts of a slice of plain cells -/
theorem Row.take {S : Nat → Prop} {w : World} {a : Addr} {n cap k : Nat} {xs : List Value} (h : Row S w (.slice (some a) n cap) xs) (hk : k ≤ xs.length) : Row S w (.slice (some a) k cap) (xs.take k) := by
  rcases h with ⟨h, _⟩ | ⟨a', cap', hv, hb, hc⟩
  · cases h
  · injection hv with h1 h2 h3
    injection h1 with h1
    subst h1 h3
    refine .inr ⟨_, _, by rw [List.length_take, Nat.min_eq_left hk], ?_, fun j u hu => ?_⟩
    · rcases hb with rfl | hb
      · exact .inl (by simp)
      · exact .inr hb
    · rw [List.getElem?_take] at hu
      split at hu
      · exact hc j u hu
      · cases hu
theorem Row.drop {S : Nat → Prop} {w : World} {a : Addr} {n cap k c m : Nat} {xs : List Value} (h : Row S w (.slice (some a) n cap) xs) (hm : m = xs.length - k) : Row S w (.slice (some (a.add k)) m c) (xs.drop k) := by
  rcases h with ⟨h, _⟩ | ⟨a', cap', hv, hb, hc⟩
  · cases h
  · injection hv with h1 h2 h3
    injection h1 with h1
    subst h1 h3
    refine .inr ⟨_, _, by rw [List.length_drop, hm], ?_, fun j u hu => ?_⟩
    · rcases hb with rfl | hb
      · exact .inl (by simp)
      · exact .inr (by rw [block_of_add]; exact hb)
    · rw [List.getElem?_drop] at hu
      rw [add_add]
      exact hc _ u hu

/-! ### arguments opened -/
section
variable {H : Type} {enc : TypeId × Value → H} {P : Program} {W : World} {r : Reach} {b0 : Nat} {t e : TypeId} {v : Value} {d : DataW H} {ps : List MemPlace} {fs : Array Field} {y : DataW H × List MemPlace} {fuel : Nat}

/-- cells x read as the fields fs -/
def Fields {H : Type} (enc : TypeId × Value → H) (P : Program) (W : World) (fs : Array Field) (x : List Value) : Prop :=
  x.length = fs.size ∧ ∀ (j : Nat) (f : Field), fs[j]? = some f → ∃ u y n, x[j]? = some u ∧ DataW.trod enc P W 0 (fun _ => true) true n f.type [u] = some y

theorem fields_of {cs : List Value} (he : P.underlying e = some (.struct fs)) (hone : oneCellFields P fs = true) (hC : P.cellsOf e = fs.size) (h : DataW.trod enc P W 0 (fun _ => true) true fuel e cs = some y) : Fields enc P W fs cs := by
  obtain ⟨ys, n, _, _, hl, hyl, hf⟩ := DataW.trod_struct he h
  refine ⟨by omega, fun j f hj => ?_⟩
  obtain ⟨ho, hk⟩ := hone_of hone j f hj
  have hjl : j < fs.size := (Array.getElem?_eq_some_iff.1 hj).1
  have h1 := hf j f hj
  rw [ho, hk, List.drop_eq_getElem_cons (by omega)] at h1
  exact ⟨_, ys[j]'(by omega), n, List.getElem?_eq_getElem (by omega), h1.trans (List.getElem?_eq_getElem (by omega))⟩

/-- a slice of integers: as open_row_ints, and how long it may become -/
theorem open_row_ints2 {k : IntKind} (ht : P.underlying t = some (.slice e)) (he : P.underlying e = some (.int k)) (hC : P.cellsOf e = 1) (hv : Value.okWide P W r b0 t v) (h : DataW.Trod enc P W 0 (fun _ => true) true t v d ps) :
    ∃ zs : List Int, Row (fun b => W.heap.size ≤ b) W v (zs.map (Value.int k)) ∧ (∀ z ∈ zs, (Lit.int k z).wf = true) ∧ zs.length ≤ maxLen ∧ ∀ A n c, v = .slice A n c → n ≤ c ∧ c ≤ maxLen := by
  obtain ⟨zs, h1, h2, h3⟩ := open_row_ints ht he hC hv h
  refine ⟨zs, h1, h2, h3, fun A n c hvv => ?_⟩
  subst hvv
  obtain ⟨fuel, hf⟩ := h
  rcases open_ints ht he hC hf with ⟨hcs, _⟩ | ⟨x, l, c', zs', hcs, _, hl, hm, _⟩
  · simp [Value.cells] at hcs
    obtain ⟨rfl, rfl, rfl⟩ := hcs
    exact ⟨Nat.le_refl _, Nat.zero_le _⟩
  · simp [Value.cells] at hcs
    obtain ⟨rfl, rfl, rfl⟩ := hcs
    exact ⟨hl, hm⟩

/-- a struct by value -/
theorem open_struct (ht : P.underlying t = some (.struct fs)) (hone : oneCellFields P fs = true) (hC : P.cellsOf t = fs.size) (hv : Value.okWide P W r b0 t v) (h : DataW.Trod enc P W 0 (fun _ => true) true t v d ps) :
    ∃ cs : List Value, v = .agg cs.toArray ∧ Fields enc P W fs cs := by
  obtain ⟨cs, rfl, hsz⟩ := okWide_struct ht hv
  obtain ⟨f, hf⟩ := h
  exact ⟨cs.toList, by simp, fields_of ht hone hC hf⟩

/-- a slice of structs -/
theorem open_rowN (ht : P.underlying t = some (.slice e)) (he : P.underlying e = some (.struct fs)) (hone : oneCellFields P fs = true) (hC : P.cellsOf e = fs.size) (hpos : 0 < fs.size) (h : DataW.trod enc P W 0 (fun _ => true) true fuel t [v] = some y) :
    ∃ xs : List (List Value), RowN fs.size (fun b => W.heap.size ≤ b) W v xs ∧ (∀ x ∈ xs, Fields enc P W fs x) ∧ xs.length ≤ maxLen := by
  rcases open_slice ht h with ⟨hcs, _⟩ | ⟨a, len, cap, m, n, D, Pl, hcs, _, hl, hm, hmm, _, hi⟩
  · injection hcs with hcs
    subst hcs
    exact ⟨[], .inl ⟨rfl, rfl⟩, by simp, by simp⟩
  · injection hcs with hcs
    subst hcs
    simp only [if_true] at hmm
    subst hmm
    have key : ∀ i, i < len → ∃ x : List Value, Fields enc P W fs x ∧ ∀ j u, x[j]? = some u → W.cell? (a.add (i * fs.size + j)) = some u := by
      intro i hil
      obtain ⟨cs', hc, ht'⟩ := hi i (by omega)
      rw [hC] at hc
      obtain ⟨_, hcl, hat⟩ := World.cells?_some hc
      have hF := fields_of he hone hC ht'
      refine ⟨cs', hF, fun j u hj => ?_⟩
      have hjl : j < cs'.length := (List.getElem?_eq_some_iff.1 hj).1
      rw [← add_add, hat j (by omega)]
      exact hj
    let X : Nat → List Value := fun i => if h : i < len then (key i h).choose else []
    have hX : ∀ i, i < len → Fields enc P W fs (X i) ∧ ∀ j u, (X i)[j]? = some u → W.cell? (a.add (i * fs.size + j)) = some u := by
      intro i hil
      have := (key i hil).choose_spec
      simp only [X, dif_pos hil]
      exact this
    refine ⟨(List.range len).map X, .inr ⟨a, m, by simp, ?_, fun i x hx => ?_⟩, fun x hx => ?_, by simp; omega⟩
    · rcases Nat.eq_zero_or_pos len with h0 | h0
      · subst h0; exact .inl rfl
      · right
        obtain ⟨hF, hc⟩ := hX 0 h0
        have h2 := hc 0 _ (List.getElem?_eq_getElem (by rw [hF.1]; exact hpos))
        have := World.block_lt_of_cell? _ _ h2
        rw [block_of_add] at this
        exact ⟨this, by omega⟩
    · rw [List.getElem?_map] at hx
      cases hr : (List.range len)[i]? with
      | none => rw [hr] at hx; cases hx
      | some q =>
        obtain ⟨hq, hq2⟩ := List.getElem?_eq_some_iff.1 hr
        simp at hq hq2
        subst hq2
        rw [hr] at hx
        injection hx with hx
        subst hx
        exact (hX _ hq).2
    · obtain ⟨i, hir, rfl⟩ := List.mem_map.1 hx
      exact (hX i (List.mem_range.1 hir)).1
end
end Go.Proofs.Ytnoenccpbbkdeaa

/- Stores of structs at an offset of a block; blocks and slices whose elements are structs, read as lists. No function of the program is named. No walk. -/
namespace Go.Proofs.Ytnoenccpbbkdeaa
open Go.ChangeShapes Go.WideShapes Go.ChangeAt Go.RowKit

theorem setRow_self (w : World) (g : Nat) (t : TypeId) (cur : Array Value) (hg : w.heap[g]? = some (.cells cur t (0, 0))) : w.setRow g cur = w := by
  have hlt : g < w.heap.size := (Array.getElem?_eq_some_iff.1 hg).1
  have hv : w.heap[g] = .cells cur t (0, 0) := (Array.getElem?_eq_some_iff.1 hg).2
  unfold World.setRow
  cases w with
  | mk heap tape drawn os output =>
    congr 1
    apply Array.ext
    · simp
    · intro k h1 h2
      simp only [Array.getElem_modify]
      split
      · rename_i hk; subst hk; simp at hv; simp [hv]
      · rfl

/-- cs with xs at o -/
def spl (cs : Array Value) (o : Nat) (xs : List Value) : Array Value := (cs.toList.take o ++ (xs ++ cs.toList.drop (o + xs.length))).toArray
theorem spl_nil (cs : Array Value) (o : Nat) : spl cs o [] = cs := by
  unfold spl
  simp
theorem spl_size (cs : Array Value) (o : Nat) (xs : List Value) (h : o + xs.length ≤ cs.size) : (spl cs o xs).size = cs.size := by
  unfold spl
  simp
  omega
theorem spl_in (cs : Array Value) (o : Nat) (xs : List Value) (h : o + xs.length ≤ cs.size) (j : Nat) (hj : j < xs.length) : (spl cs o xs)[o + j]? = xs[j]? := by
  unfold spl
  have h1 : (cs.toList.take o).length = o := by simp; omega
  rw [List.getElem?_toArray, List.getElem?_append_right (by omega), h1, show o + j - o = j by omega, List.getElem?_append_left hj]
theorem spl_out (cs : Array Value) (o : Nat) (xs : List Value) (h : o + xs.length ≤ cs.size) (i : Nat) (hi : i < o ∨ o + xs.length ≤ i) : (spl cs o xs)[i]? = cs[i]? := by
  unfold spl
  have h1 : (cs.toList.take o).length = o := by simp; omega
  rw [List.getElem?_toArray]
  rcases hi with hi | hi
  · rw [List.getElem?_append_left (by omega), List.getElem?_take_of_lt hi]
    simp
  · rw [List.getElem?_append_right (by omega), h1, List.getElem?_append_right (by omega), List.getElem?_drop, show o + xs.length + (i - o - xs.length) = i by omega]
    simp
theorem spl_step (cs : Array Value) (o : Nat) (v : Value) (xs : List Value) (h : o + (xs.length + 1) ≤ cs.size) : spl (cs.setIfInBounds o v) (o + 1) xs = spl cs o (v :: xs) := by
  apply Array.ext_getElem?
  intro i
  have hs : (cs.setIfInBounds o v).size = cs.size := by simp
  by_cases hi : i < o
  · rw [spl_out _ _ _ (by rw [hs]; omega) i (.inl (by omega)), spl_out _ _ _ (by simp; omega) i (.inl hi), Array.getElem?_setIfInBounds_ne (by omega)]
  · by_cases h2 : i = o
    · subst h2
      rw [spl_out _ _ _ (by rw [hs]; omega) i (.inl (by omega))]
      have := spl_in cs i (v :: xs) (by simp; omega) 0 (by simp)
      rw [Nat.add_zero] at this
      rw [this, Array.getElem?_setIfInBounds_self_of_lt (by omega)]
      rfl
    · by_cases h3 : i < o + 1 + xs.length
      · have e1 := spl_in (cs.setIfInBounds o v) (o + 1) xs (by rw [hs]; omega) (i - (o + 1)) (by omega)
        have e2 := spl_in cs o (v :: xs) (by simp; omega) (i - o) (by simp; omega)
        rw [show o + 1 + (i - (o + 1)) = i by omega] at e1
        rw [show o + (i - o) = i by omega, show i - o = (i - (o + 1)) + 1 by omega, List.getElem?_cons_succ] at e2
        rw [e1, e2]
      · rw [spl_out _ _ _ (by rw [hs]; omega) i (.inr (by omega)), spl_out _ _ _ (by simp; omega) i (.inr (by simp; omega)), Array.getElem?_setIfInBounds_ne (by omega)]

section
variable {P : Program} {ops : Array Oper} {Q : Exit → Act → World → Prop} {a : Act} {w : World} {rest : List Oper} {o o1 o2 : Oper}

theorem run_storeCells_off (g off : Nat) (t : TypeId) : ∀ (vs : List Value) (i : Nat) (cur : Array Value) (w : World), w.heap[g]? = some (.cells cur t (0, 0)) → off + i + vs.length ≤ cur.size → (∀ v ∈ vs, v.oneCell' = true) →
    (storeCells ⟨g, off, none⟩ vs i).run P w = .ok () (w.setRow g (spl cur (off + i) vs))
  | [], i, cur, w, hg, _, _ => by
    rw [spl_nil, setRow_self w g t cur hg]
    rfl
  | v :: vs, i, cur, w, hg, hl, h1 => by
    have hi : off + i < cur.size := by simp at hl; omega
    have hadd : (⟨g, off, none⟩ : Addr).add i = ⟨g, off + i, none⟩ := by unfold Addr.add; split <;> simp_all
    have hcell : w.cell? ⟨g, off + i, none⟩ = some cur[off + i] := by simp [World.cell?, hg, hi]
    have hfro : w.frozen? ⟨g, off + i, none⟩ = false := by simp [World.frozen?, hg]
    have hst : (store ((⟨g, off, none⟩ : Addr).add i) v).run P w = .ok () (w.setRow g (cur.setIfInBounds (off + i) v)) := by
      rw [hadd, run_store P w _ v _ (h1 v (by simp)), hcell]
      simp [hfro, setCell_eq_setRow w g (off + i) cur t (0, 0) v hg]
    have ih := run_storeCells_off g off t vs (i + 1) (cur.setIfInBounds (off + i) v) (w.setRow g (cur.setIfInBounds (off + i) v)) (setRow_heap w g cur _ t _ hg) (by simp at hl ⊢; omega) (fun x hx => h1 x (by simp [hx]))
    simp only [storeCells, Sem.run_bind, hst, Result.andThen_ok, ih, setRow_setRow]
    rw [← Nat.add_assoc, spl_step cur (off + i) v vs (by simp at hl; omega)]

/-- a store of a struct at an offset of a block -/
theorem wp_storeO {K : Act → World → Prop} (ty : TypeId) (x y : Operand) (ho : o.op = .store ty x y) (hd : o.dst = none) (g off : Nat) (hx : a.eval x = .pointer (some ⟨g, off, none⟩)) (cs : Array Value) (hy : a.eval y = .agg cs)
    (t : TypeId) (old : Array Value) (hB : Blk w g t old) (hi : (P.info? ty).map (·.size) = some cs.size) (hold : off + cs.size ≤ old.size) (h1 : cs.all (·.oneCell') = true)
    (h : ∀ w', Mod (fun k => k = g) w w' → Blk w' g t (spl old off cs.toList) → K a w') : o.wp P a w K Q := by
  have hrun := run_storeCells_off (P := P) g off t cs.toList 0 old w hB (by simpa using hold) (fun v hv => (Array.all_eq_true_iff_forall_mem.1 h1) v (by simpa using hv))
  rw [Nat.add_zero] at hrun
  have hv : (storeVar ty ⟨g, off, none⟩ (.agg cs)).run P w = .ok () (w.setRow g (spl old off cs.toList)) := by
    cases hq : P.info? ty with
    | none => simp [hq] at hi
    | some i =>
      have hs : cs.size = i.size := by simp [hq] at hi; omega
      simp [storeVar, sizeOf, typeInfo, hq, Value.cells, hs, hrun]
  unfold Oper.wp execOp
  simp only [ho, hx, hy, Instr.storeAt, Instr.sureAddr, Sem.run_bind, Sem.run_pure, Result.andThen_ok, hv]
  show K (a.put o.dst undef) _
  rw [hd]
  exact h _ (mod_setRow _ _ _) (setRow_heap _ _ _ _ _ _ hB)
theorem wpList_storeO (hg : o.guard = none) (ty : TypeId) (x y : Operand) (ho : o.op = .store ty x y) (hd : o.dst = none) (g off : Nat) (hx : a.eval x = .pointer (some ⟨g, off, none⟩)) (cs : Array Value) (hy : a.eval y = .agg cs)
    (t : TypeId) (old : Array Value) (hB : Blk w g t old) (hi : (P.info? ty).map (·.size) = some cs.size) (hold : off + cs.size ≤ old.size) (h1 : cs.all (·.oneCell') = true)
    (h : ∀ w', Mod (fun k => k = g) w w' → Blk w' g t (spl old off cs.toList) → wpList P ops Q rest a w') : wpList P ops Q (o :: rest) a w :=
  wpList_plain hg fun _ hK => wp_storeO ty x y ho hd g off hx cs hy t old hB hi hold h1 fun w' m B => hK _ _ (h w' m B)
end

/-! ### blocks of structs -/
/-- block g holds the structs l, of k cells each -/
def Strs (w : World) (g : Nat) (t : TypeId) (k : Nat) (l : List (Array Value)) : Prop :=
  ∃ cur, Blk w g t cur ∧ cur.size = l.length * k ∧ ∀ i x, l[i]? = some x → x.size = k ∧ ∀ j v, x[j]? = some v → cur[i * k + j]? = some v
theorem Strs.keep {S : Nat → Prop} {w w' : World} {g : Nat} {t : TypeId} {k : Nat} {l : List (Array Value)} (h : Strs w g t k l) (m : Mod S w w') (hS : ¬ S g) : Strs w' g t k l := by
  obtain ⟨cur, hB, h2⟩ := h
  exact ⟨cur, hB.keep m hS, h2⟩
theorem Strs.below {w w' : World} {g : Nat} {t : TypeId} {k : Nat} {l : List (Array Value)} (h : Strs w g t k l) (b : Below w.heap.size w w') : Strs w' g t k l := h.keep (S := fun _ => False) (Mod.of_below b) id
theorem Strs.lt {w : World} {g : Nat} {t : TypeId} {k : Nat} {l : List (Array Value)} (h : Strs w g t k l) : g < w.heap.size := by
  obtain ⟨cur, hB, _⟩ := h
  exact hB.lt
theorem Strs.lies {w : World} {g : Nat} {t : TypeId} {k : Nat} {l : List (Array Value)} (h : Strs w g t k l) {i : Nat} {x : Array Value} (hi : l[i]? = some x) : Lies w ⟨g, i * k, none⟩ x := by
  obtain ⟨cur, hB, _, h3⟩ := h
  exact hB.part (i * k) (h3 i x hi).2
theorem row_le {i n k : Nat} (h : i < n) : i * k + k ≤ n * k := by
  have := Nat.mul_le_mul_right k (show i + 1 ≤ n by omega)
  rw [Nat.succ_mul] at this
  exact this
theorem row_apart {i j k a : Nat} (h : i ≠ j) (ha : a < k) : i * k + a < j * k ∨ j * k + k ≤ i * k + a := by
  rcases Nat.lt_or_ge i j with h1 | h1
  · left
    have := row_le (k := k) h1
    omega
  · right
    have := row_le (k := k) (show j < i by omega)
    omega
/-- what a store at an element leaves -/
theorem Strs.set_ {w' : World} {g : Nat} {t : TypeId} {k : Nat} {l : List (Array Value)} {cur : Array Value} (h2 : cur.size = l.length * k) (h3 : ∀ i x, l[i]? = some x → x.size = k ∧ ∀ j v, x[j]? = some v → cur[i * k + j]? = some v)
    {i : Nat} (hi : i < l.length) {x : Array Value} (hx : x.size = k) (hB : Blk w' g t (spl cur (i * k) x.toList)) : Strs w' g t k (l.set i x) := by
  have hle : i * k + x.toList.length ≤ cur.size := by
    rw [h2, Array.length_toList, hx]
    exact row_le hi
  refine ⟨_, hB, by rw [spl_size _ _ _ hle, h2, List.length_set], fun j y hj => ?_⟩
  by_cases e : j = i
  · subst e
    rw [List.getElem?_set_self hi] at hj
    injection hj with hj
    subst hj
    refine ⟨hx, fun q v hq => ?_⟩
    have hql := (Array.getElem?_eq_some_iff.1 hq).1
    rw [spl_in _ _ _ hle q (by simpa using hql)]
    simpa using hq
  · rw [List.getElem?_set_ne (fun h => e h.symm)] at hj
    obtain ⟨h4, h5⟩ := h3 j y hj
    refine ⟨h4, fun q v hq => ?_⟩
    have hql := (Array.getElem?_eq_some_iff.1 hq).1
    rw [spl_out _ _ _ hle (j * k + q) (by rw [Array.length_toList, hx]; exact row_apart e (by omega))]
    exact h5 q v hq
/-- a block of structs as a slice -/
theorem Strs.row {w : World} {g : Nat} {t : TypeId} {k n c : Nat} {l : List (Array Value)} (h : Strs w g t k l) (hn : l.length = n) : RowN k (fun b => b < g) w (.slice (some ⟨g, 0, none⟩) n c) (l.map Array.toList) := by
  subst hn
  refine .inr ⟨⟨g, 0, none⟩, c, by rw [List.length_map], .inr ⟨h.lt, Nat.lt_irrefl _⟩, fun i x hx j u hu => ?_⟩
  rw [List.getElem?_map] at hx
  cases hl : l[i]? with
  | none => rw [hl] at hx; cases hx
  | some y =>
    rw [hl] at hx
    injection hx with hx
    subst hx
    obtain ⟨cur, hB, _, h3⟩ := h
    have : (⟨g, 0, none⟩ : Addr).add (i * k + j) = ⟨g, i * k + j, none⟩ := by unfold Addr.add; split <;> simp_all
    rw [this, hB.cell]
    exact (h3 i y hl).2 j u (by simpa using hu)
end Go.Proofs.Ytnoenccpbbkdeaa

/- 'out = append(out, x)' onto a row of the call's own, for an element of any kind of cells; outside a round (XApG on less). For any layer. No walk. -/
namespace Go.Proofs.Ytnoenccpbbkdeaa
open Go.ChangeShapes Go.WideShapes Go.ChangeAt Go.RowKit

theorem info_of {P : Program} {t : TypeId} {z : Value} {s b : Nat} (h : (P.info? t).map (fun i => (i.zero, i.size, i.bytes)) = some (some z, s, b)) : ∃ i, P.info? t = some i ∧ i.zero = some z ∧ i.size = s ∧ i.bytes = b := by
  cases hq : P.info? t with
  | none => rw [hq] at h; cases h
  | some i =>
    rw [hq] at h
    injection h with h
    injection h with h1 h2
    injection h2 with h2 h3
    exact ⟨i, rfl, h1, h2, h3⟩
theorem below_grew {B : Nat} {w w' : World} {r : Option Nat} (h : w.grownBy w' r) (hB : B ≤ w.heap.size) (hr : ∀ g, r = some g → B ≤ g) : Below B w w' :=
  (Mod.grown (S := fun k => r = some k) (Mod.refl _ _) h (fun _ e => .inl e)).below hB hr
/-- how an element's type is laid -/
structure Elh (P : Program) (T E : TypeId) (size bytes : Nat) : Prop where
  und : P.underlying T = some (.slice E)
  info : ∃ z : Value, ((P.info? E).map (fun i => (i.zero, i.size, i.bytes)) = some (some z, size, bytes)) ∧ z.cells.size = size
  pos : 0 < size
  small : bytes ≤ 1024

theorem apH {P : Program} {T E : TypeId} {size bytes : Nat} (hE : Elh P T E size bytes) {ops : Array Oper} {Q : Exit → Act → World → Prop} {a : Act} {w : World} {rest : List Oper} {o1 o2 : Oper} (hg1 : o1.guard = none) (x : Operand) (ho1 : o1.op = .buildSlice T 1 #[(0, x)]) (D : Tmp) (hd1 : o1.dst = some D)
    (hg2 : o2.guard = none) (sl : Operand) (ho2 : o2.op = .call { callee := .builtin .append, args := #[sl, .tmp D], argTypes := #[T, T] }) (val : Value) (cs : Array Value) (hx : a.eval x = val) (hcs : cs.size = size) (h1 : cs.all (·.oneCell') = true)
    (hbs : ∀ w, (Instr.buildSlice T 1 #[(0, val)]).run P w = .ok (.slice (some ⟨w.heap.size, 0, none⟩) 1 1) (w.alloc (.cells cs E)))
    (v : Value) (hs : ∀ u, (a.put (some D) u).eval sl = v) (hD : ∀ u, (a.put (some D) u).eval (.tmp D) = u) (base n : Nat) (xs : List Value) (hown : w.ownsRow base E size v n xs) (hn : n < 4194304) (hbase : base ≤ w.heap.size)
    (h : ∀ u v' w', w'.ownsRow base E size v' (n + 1) (xs ++ cs.toList) → Below base w w' → Mod (fun k => v.ownBlock = some k) w w' → (∀ k, v'.ownBlock = some k → v.ownBlock = some k ∨ w.heap.size ≤ k) → wpList P ops Q rest ((a.put (some D) u).put o2.dst v') w') : wpList P ops Q (o1 :: o2 :: rest) a w := by
  obtain ⟨z, hi0, hzc⟩ := hE.info
  obtain ⟨i0, hi, hz0, hz1, hz2⟩ := info_of hi0
  have hsm := hE.small
  refine wpList_valIf (wanted_none hg1 _) _ hd1 (.slice (some ⟨w.heap.size, 0, none⟩) 1 1) (w.alloc (.cells cs E)) ?_ ?_
  · unfold execOp
    simp only [ho1, List.map_toArray, List.map_cons, List.map_nil, hx, Sem.run_bind, hbs, Sem.run_pure, Result.andThen_ok]
  · have B0 := Blk.new w E cs
    refine wpList_append_own_at _ hg2 sl (.tmp D) T ho2 base E i0 z size bytes hE.und hi hz0 hz1 hz2 hzc hE.pos v n xs (hs _) (hown.alloc _) ⟨w.heap.size, 0, none⟩ 1 1 cs.toList (hD _) (by rw [Array.length_toList, hcs, Nat.one_mul]) (fun j u hu => B0.lies j u (by simpa using hu)) (fun u hu => (Array.all_eq_true_iff_forall_mem.1 h1) u (by simpa using hu)) (by unfold maxLen; omega) (Nat.le_trans (Nat.mul_le_mul (show n + 1 ≤ 4194304 by omega) hsm) (by omega)) (by simp; omega) ?_
    intro v' w' h1 h2 h3 h5
    have hblk : ∀ g, v.ownBlock = some g → base ≤ g := fun g hg => by
      rcases hown.2 with ⟨rfl, _⟩ | ⟨g', cap, cur, rfl, hb, _⟩
      · simp [Value.ownBlock] at hg
      · have e : g' = g := by simpa [Value.ownBlock] using hg
        omega
    refine h _ v' w' h1 (((below_alloc w _).mono hbase).trans (below_grew h2 (by simp; omega) hblk)) (((Mod.refl _ w).alloc _).grown h2 fun k e => .inl e) fun k hk => ?_
    rcases h5 with e | e
    · exact .inl (e ▸ hk)
    · rw [e] at hk
      injection hk with hk
      exact .inr (by rw [← hk]; simp)

/-- a row of the call's own, kept -/
theorem own_below {w w' : World} {base size : Nat} {e : TypeId} {v : Value} {n : Nat} {xs : List Value} (h : w.ownsRow base e size v n xs) (b : Below w.heap.size w w') : w'.ownsRow base e size v n xs :=
  own_keep h (S := fun _ => False) (Mod.of_below b) (fun _ _ => id)
theorem own_nil (w : World) (base size : Nat) (e : TypeId) : w.ownsRow base e size (.slice none 0 0) 0 [] := ⟨by simp, .inl ⟨rfl, rfl⟩⟩
/-- two rows of the call's own that lie apart -/
def Apart (v u : Value) : Prop := ∀ k, v.ownBlock = some k → ¬ u.ownBlock = some k
theorem Apart.nil (u : Value) : Apart (.slice none 0 0) u := fun k h => by simp [Value.ownBlock] at h
theorem Apart.symm {v u : Value} (h : Apart v u) : Apart u v := fun k h1 h2 => h k h2 h1
theorem own_lt {w : World} {base size : Nat} {e : TypeId} {v : Value} {n : Nat} {xs : List Value} (h : w.ownsRow base e size v n xs) {k : Nat} (hk : v.ownBlock = some k) : k < w.heap.size := by
  rcases h.2 with ⟨rfl, _⟩ | ⟨g, cap, cur, rfl, _, hg, _⟩
  · simp [Value.ownBlock] at hk
  · obtain rfl : g = k := by simpa [Value.ownBlock] using hk
    exact (Array.getElem?_eq_some_iff.1 hg).1
theorem Apart.step {w : World} {base size : Nat} {e : TypeId} {v v' u : Value} {n : Nat} {xs : List Value} (h : Apart u v) (hu : w.ownsRow base e size u n xs) (hv : ∀ k, v'.ownBlock = some k → v.ownBlock = some k ∨ w.heap.size ≤ k) : Apart u v' := fun k h1 h2 => by
  rcases hv k h2 with e | e
  · exact h k h1 e
  · have := own_lt hu h1
    omega
theorem Apart.keep {w w' : World} {base size : Nat} {e : TypeId} {v u : Value} {n : Nat} {xs : List Value} (h : Apart u v) (hu : w.ownsRow base e size u n xs) (m : Mod (fun k => v.ownBlock = some k) w w') : w'.ownsRow base e size u n xs := own_keep hu m h
end Go.Proofs.Ytnoenccpbbkdeaa
