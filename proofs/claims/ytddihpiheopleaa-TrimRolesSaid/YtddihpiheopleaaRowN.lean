/- Slices whose elements are structs of k plain cells, read as lists of rows; structs of plain cells by value; parts of slices of plain cells. For any layer. No walk. -/
import Derived.Test.YtddihpiheopleaaOpen
import Derived.Deep.Slices
import Derived.Deep.Fields
namespace Go.Proofs.Ytddihpiheopleaa
open Go.ChangeShapes Go.WideShapes Go.ChangeAt Go.RowKit Go.Deep

/-- v is a slice whose elements have k cells each and read as xs; it lies in no block of S -/
def RowN (k : Nat) (S : Nat → Prop) (w : World) (v : Value) (xs : List (List Value)) : Prop :=
  (v = .slice none 0 0 ∧ xs = []) ∨ ∃ a cap, v = .slice (some a) xs.length cap ∧ (xs = [] ∨ (a.block < w.heap.size ∧ ¬ S a.block)) ∧ ∀ i x, xs[i]? = some x → ∀ j u, x[j]? = some u → w.cell? (a.add (i * k + j)) = some u

theorem RowN.form {k : Nat} {S : Nat → Prop} {w : World} {v : Value} {xs : List (List Value)} (h : RowN k S w v xs) : ∃ A c, v = .slice A xs.length c := by
  rcases h with ⟨rfl, rfl⟩ | ⟨a, cap, rfl, _⟩
  · exact ⟨_, _, rfl⟩
  · exact ⟨_, _, rfl⟩

theorem RowN.keep {k : Nat} {S T : Nat → Prop} {w w' : World} {v : Value} {xs : List (List Value)} (h : RowN k S w v xs) (m : Mod T w w') (hT : ∀ b, b < w.heap.size → T b → S b) : RowN k S w' v xs := by
  rcases h with h | ⟨a, cap, rfl, hb, hc⟩
  · exact .inl h
  · refine .inr ⟨a, cap, rfl, ?_, fun i x hx j u hu => ?_⟩
    · rcases hb with hb | ⟨hb, hS⟩
      · exact .inl hb
      · exact .inr ⟨Nat.lt_of_lt_of_le hb m.size, hS⟩
    · rcases hb with rfl | ⟨hb, hS⟩
      · simp at hx
      · rw [m.cell (by rw [block_of_add]; exact hb) (by rw [block_of_add]; exact fun ht => hS (hT _ hb ht))]
        exact hc i x hx j u hu
theorem RowN.mono {k : Nat} {S T : Nat → Prop} {w : World} {v : Value} {xs : List (List Value)} (h : RowN k S w v xs) (hT : ∀ b, b < w.heap.size → T b → S b) : RowN k T w v xs := by
  rcases h with h | ⟨a, cap, rfl, hb, hc⟩
  · exact .inl h
  · refine .inr ⟨a, cap, rfl, ?_, hc⟩
    rcases hb with hb | ⟨hb, hS⟩
    · exact .inl hb
    · exact .inr ⟨hb, fun ht => hS (hT _ hb ht)⟩
theorem RowN.below {k : Nat} {S : Nat → Prop} {w w' : World} {v : Value} {xs : List (List Value)} (h : RowN k S w v xs) (b : Below w.heap.size w w') : RowN k S w' v xs := h.keep (T := fun _ => False) (Mod.of_below b) (fun _ _ h => h.elim)

/-- an element's cells, by plain addresses, in a later world -/
theorem RowN.get {k : Nat} {S : Nat → Prop} {w wx : World} {v : Value} {xs : List (List Value)} (h : RowN k S w v xs) (b : Below w.heap.size w wx) {i : Nat} {x : List Value} (hi : xs[i]? = some x) (hx : 0 < x.length) :
    ∃ a cap o, v = .slice (some a) xs.length cap ∧ a.block < w.heap.size ∧ ¬ S a.block ∧ a.add (i * k) = ⟨a.block, o, none⟩ ∧ ∀ j u, x[j]? = some u → wx.cell? ⟨a.block, o + j, none⟩ = some u := by
  rcases h with ⟨_, rfl⟩ | ⟨a, cap, rfl, hb, hc⟩
  · simp at hi
  · have hb2 : a.block < w.heap.size ∧ ¬ S a.block := by
      rcases hb with rfl | hb
      · simp at hi
      · exact hb
    have h0 := hc i x hi 0 _ (List.getElem?_eq_getElem hx)
    rw [Nat.add_zero] at h0
    have hs := World.cell?_spot h0
    have hbk := block_of_add a (i * k)
    obtain ⟨q, hq⟩ : ∃ q, a.add (i * k) = q := ⟨_, rfl⟩
    rw [hq] at hs hbk
    obtain ⟨bl, o, sp⟩ := q
    simp only at hs hbk
    subst hs hbk
    refine ⟨a, cap, o, rfl, hb2.1, hb2.2, hq, fun j u hj => ?_⟩
    have := hc i x hi j u hj
    rw [← add_add, hq, Addr.add_lit] at this
    rw [b.cell (p := ⟨a.block, o + j, none⟩) hb2.1]
    exact this

/-- a list whose members are each of the form f y -/
theorem list_choose {α β : Type} (f : β → α) (p : β → Prop) : ∀ xs : List α, (∀ x ∈ xs, ∃ y, x = f y ∧ p y) → ∃ ys : List β, xs = ys.map f ∧ ∀ y ∈ ys, p y
  | [], _ => ⟨[], rfl, fun _ h => by cases h⟩
  | x :: xs, h => by
    obtain ⟨y, rfl, hy⟩ := h x (List.mem_cons_self ..)
    obtain ⟨ys, rfl, hys⟩ := list_choose f p xs fun z hz => h z (List.mem_cons_of_mem _ hz)
    exact ⟨y :: ys, rfl, fun z hz => (List.mem_cons.1 hz).elim (fun e => e ▸ hy) (hys z)⟩

/-! ### parts of a slice of plain cells -/
theorem Row.take {S : Nat → Prop} {w : World} {a : Addr} {n cap k : Nat} {xs : List Value} (h : Row S w (.slice (some a) n cap) xs) (hk : k ≤ xs.length) : Row S w (.slice (some a) k cap) (xs.take k) := by
  rcases h with ⟨h, _⟩ | ⟨a', cap', hv, hb, hc⟩
  · cases h
  · injection hv with h1 h2 h3
    injection h1 with h1
    subst h1 h3
    refine .inr ⟨_, _, by rw [List.length_take, Nat.min_eq_left hk], ?_, fun j u hu => ?_⟩
    · rcases hb with rfl | hb
      · exact .inl (by simp)
      · exact .inr hb
    · rw [List.getElem?_take] at hu
      split at hu
      · exact hc j u hu
      · cases hu
theorem Row.drop {S : Nat → Prop} {w : World} {a : Addr} {n cap k c m : Nat} {xs : List Value} (h : Row S w (.slice (some a) n cap) xs) (hm : m = xs.length - k) : Row S w (.slice (some (a.add k)) m c) (xs.drop k) := by
  rcases h with ⟨h, _⟩ | ⟨a', cap', hv, hb, hc⟩
  · cases h
  · injection hv with h1 h2 h3
    injection h1 with h1
    subst h1 h3
    refine .inr ⟨_, _, by rw [List.length_drop, hm], ?_, fun j u hu => ?_⟩
    · rcases hb with rfl | hb
      · exact .inl (by simp)
      · exact .inr (by rw [block_of_add]; exact hb)
    · rw [List.getElem?_drop] at hu
      rw [add_add]
      exact hc _ u hu

/-! ### arguments opened -/
section
variable {H : Type} {enc : TypeId × Value → H} {P : Program} {W : World} {r : Reach} {b0 : Nat} {t e : TypeId} {v : Value} {d : DataW H} {ps : List MemPlace} {fs : Array Field} {y : DataW H × List MemPlace} {fuel : Nat}

/-- cells x read as the fields fs -/
def Fields {H : Type} (enc : TypeId × Value → H) (P : Program) (W : World) (fs : Array Field) (x : List Value) : Prop :=
  x.length = fs.size ∧ ∀ (j : Nat) (f : Field), fs[j]? = some f → ∃ u y n, x[j]? = some u ∧ DataW.trod enc P W 0 (fun _ => true) true n f.type [u] = some y

theorem fields_of {cs : List Value} (he : P.underlying e = some (.struct fs)) (hone : oneCellFields P fs = true) (hC : P.cellsOf e = fs.size) (h : DataW.trod enc P W 0 (fun _ => true) true fuel e cs = some y) : Fields enc P W fs cs := by
  obtain ⟨ys, n, _, _, hl, hyl, hf⟩ := DataW.trod_struct he h
  refine ⟨by omega, fun j f hj => ?_⟩
  obtain ⟨ho, hk⟩ := hone_of hone j f hj
  have hjl : j < fs.size := (Array.getElem?_eq_some_iff.1 hj).1
  have h1 := hf j f hj
  rw [ho, hk, List.drop_eq_getElem_cons (by omega)] at h1
  exact ⟨_, ys[j]'(by omega), n, List.getElem?_eq_getElem (by omega), h1.trans (List.getElem?_eq_getElem (by omega))⟩

/-- a slice of integers: as open_row_ints, and how long it may become -/
theorem open_row_ints2 {k : IntKind} (ht : P.underlying t = some (.slice e)) (he : P.underlying e = some (.int k)) (hC : P.cellsOf e = 1) (hv : Value.okWide P W r b0 t v) (h : DataW.Trod enc P W 0 (fun _ => true) true t v d ps) :
    ∃ zs : List Int, Row (fun b => W.heap.size ≤ b) W v (zs.map (Value.int k)) ∧ (∀ z ∈ zs, (Lit.int k z).wf = true) ∧ zs.length ≤ maxLen ∧ ∀ A n c, v = .slice A n c → n ≤ c ∧ c ≤ maxLen := by
  obtain ⟨zs, h1, h2, h3⟩ := open_row_ints ht he hC hv h
  refine ⟨zs, h1, h2, h3, fun A n c hvv => ?_⟩
  subst hvv
  obtain ⟨fuel, hf⟩ := h
  rcases open_ints ht he hC hf with ⟨hcs, _⟩ | ⟨x, l, c', zs', hcs, _, hl, hm, _⟩
  · simp [Value.cells] at hcs
    obtain ⟨rfl, rfl, rfl⟩ := hcs
    exact ⟨Nat.le_refl _, Nat.zero_le _⟩
  · simp [Value.cells] at hcs
    obtain ⟨rfl, rfl, rfl⟩ := hcs
    exact ⟨hl, hm⟩

/-- a struct by value -/
theorem open_struct (ht : P.underlying t = some (.struct fs)) (hone : oneCellFields P fs = true) (hC : P.cellsOf t = fs.size) (hv : Value.okWide P W r b0 t v) (h : DataW.Trod enc P W 0 (fun _ => true) true t v d ps) :
    ∃ cs : List Value, v = .agg cs.toArray ∧ Fields enc P W fs cs := by
  obtain ⟨cs, rfl, hsz⟩ := okWide_struct ht hv
  obtain ⟨f, hf⟩ := h
  exact ⟨cs.toList, by simp, fields_of ht hone hC hf⟩

/-- a slice of structs -/
theorem open_rowN (ht : P.underlying t = some (.slice e)) (he : P.underlying e = some (.struct fs)) (hone : oneCellFields P fs = true) (hC : P.cellsOf e = fs.size) (hpos : 0 < fs.size) (h : DataW.trod enc P W 0 (fun _ => true) true fuel t [v] = some y) :
    ∃ xs : List (List Value), RowN fs.size (fun b => W.heap.size ≤ b) W v xs ∧ (∀ x ∈ xs, Fields enc P W fs x) ∧ xs.length ≤ maxLen := by
  rcases open_slice ht h with ⟨hcs, _⟩ | ⟨a, len, cap, m, n, D, Pl, hcs, _, hl, hm, hmm, _, hi⟩
  · injection hcs with hcs
    subst hcs
    exact ⟨[], .inl ⟨rfl, rfl⟩, by simp, by simp⟩
  · injection hcs with hcs
    subst hcs
    simp only [if_true] at hmm
    subst hmm
    have key : ∀ i, i < len → ∃ x : List Value, Fields enc P W fs x ∧ ∀ j u, x[j]? = some u → W.cell? (a.add (i * fs.size + j)) = some u := by
      intro i hil
      obtain ⟨cs', hc, ht'⟩ := hi i (by omega)
      rw [hC] at hc
      obtain ⟨_, hcl, hat⟩ := World.cells?_some hc
      have hF := fields_of he hone hC ht'
      refine ⟨cs', hF, fun j u hj => ?_⟩
      have hjl : j < cs'.length := (List.getElem?_eq_some_iff.1 hj).1
      rw [← add_add, hat j (by omega)]
      exact hj
    let X : Nat → List Value := fun i => if h : i < len then (key i h).choose else []
    have hX : ∀ i, i < len → Fields enc P W fs (X i) ∧ ∀ j u, (X i)[j]? = some u → W.cell? (a.add (i * fs.size + j)) = some u := by
      intro i hil
      have := (key i hil).choose_spec
      simp only [X, dif_pos hil]
      exact this
    refine ⟨(List.range len).map X, .inr ⟨a, m, by simp, ?_, fun i x hx => ?_⟩, fun x hx => ?_, by simp; omega⟩
    · rcases Nat.eq_zero_or_pos len with h0 | h0
      · subst h0; exact .inl rfl
      · right
        obtain ⟨hF, hc⟩ := hX 0 h0
        have h2 := hc 0 _ (List.getElem?_eq_getElem (by rw [hF.1]; exact hpos))
        have := World.block_lt_of_cell? _ _ h2
        rw [block_of_add] at this
        exact ⟨this, by omega⟩
    · rw [List.getElem?_map] at hx
      cases hr : (List.range len)[i]? with
      | none => rw [hr] at hx; cases hx
      | some q =>
        obtain ⟨hq, hq2⟩ := List.getElem?_eq_some_iff.1 hr
        simp at hq hq2
        subst hq2
        rw [hr] at hx
        injection hx with hx
        subst hx
        exact (hX _ hq).2
    · obtain ⟨i, hir, rfl⟩ := List.mem_map.1 hx
      exact (hX i (List.mem_range.1 hir)).1
end
end Go.Proofs.Ytddihpiheopleaa
