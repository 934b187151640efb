/- Arguments that are slices of any structs, opened to lists of values; how long slices of arguments may become. For any layer. No walk. -/
import Derived.Test.YtddihpiheopleaaRowF
import Derived.Test.YtddihpiheopleaaRwI
import Derived.ChangeOld
namespace Go.Proofs.Ytddihpiheopleaa
open Go.ChangeShapes Go.WideShapes Go.ChangeAt Go.RowKit Go.Deep

set_option maxRecDepth 100000
section
variable {H : Type} {enc : TypeId × Value → H} {W : World} {r : Reach} {b0 : Nat} {v : Value} {d : DataW H} {ps : List MemPlace} {fuel : Nat} {cs : List Value} {y : DataW H × List MemPlace}
theorem open_rowsP {P : Program} {t e : TypeId} {k : Nat} {α : Type} (f : α → List Value) (p : α → Prop) (ht : P.underlying t = some (.slice e)) (hC : P.cellsOf e = k) (hpos : 0 < k) (hk : ∀ x, (f x).length = k)
    (hf : ∀ (n : Nat) (cs : List Value) (y : DataW H × List MemPlace), DataW.trod enc P W 0 (fun _ => true) true n e cs = some y → ∃ x, cs = f x ∧ p x) (h : DataW.trod enc P W 0 (fun _ => true) true fuel t [v] = some y) :
    ∃ xs : List α, RowN k (fun b => W.heap.size ≤ b) W v (xs.map f) ∧ ∀ x ∈ xs, p x := by
  rcases open_slice ht h with ⟨hcs, _⟩ | ⟨a, len, cap, m, n, D, Pl, hcs, _, hl, hm, hmm, _, hi⟩
  · injection hcs with hcs
    subst hcs
    exact ⟨[], .inl ⟨rfl, rfl⟩, by simp⟩
  · injection hcs with hcs
    subst hcs
    simp only [if_true] at hmm
    subst hmm
    have key : ∀ i, i < len → ∃ x : α, p x ∧ ∀ j u, (f x)[j]? = some u → W.cell? (a.add (i * k + j)) = some u := by
      intro i hil
      obtain ⟨cs', hc, ht'⟩ := hi i (by omega)
      rw [hC] at hc
      obtain ⟨_, hcl, hat⟩ := World.cells?_some hc
      obtain ⟨x, rfl, hp⟩ := hf _ _ _ ht'
      refine ⟨x, hp, fun j u hj => ?_⟩
      have hjl : j < (f x).length := (List.getElem?_eq_some_iff.1 hj).1
      rw [hk] at hjl
      rw [← add_add, hat j (by omega)]
      exact hj
    have hnil : len = 0 ∨ ∃ x : α, True := by
      rcases Nat.eq_zero_or_pos len with h0 | h0
      · exact .inl h0
      · obtain ⟨x, _⟩ := key 0 h0
        exact .inr ⟨x, trivial⟩
    rcases hnil with rfl | ⟨x0, _⟩
    · refine ⟨[], .inr ⟨a, m, rfl, .inl rfl, fun i x hx => by simp at hx⟩, by simp⟩
    let X : Nat → α := fun i => if h : i < len then (key i h).choose else x0
    have hX : ∀ i, i < len → p (X i) ∧ ∀ j u, (f (X i))[j]? = some u → W.cell? (a.add (i * k + j)) = some u := by
      intro i hil
      have := (key i hil).choose_spec
      simp only [X, dif_pos hil]
      exact this
    refine ⟨(List.range len).map X, .inr ⟨a, m, by simp, ?_, fun i x hx => ?_⟩, fun x hx => ?_⟩
    · rcases Nat.eq_zero_or_pos len with h0 | h0
      · subst h0; exact .inl rfl
      · right
        obtain ⟨_, hc⟩ := hX 0 h0
        have h2 := hc 0 _ (List.getElem?_eq_getElem (by rw [hk]; exact hpos))
        have := World.block_lt_of_cell? _ _ h2
        rw [block_of_add] at this
        exact ⟨this, by omega⟩
    · rw [List.map_map, List.getElem?_map] at hx
      cases hr : (List.range len)[i]? with
      | none => rw [hr] at hx; cases hx
      | some q =>
        obtain ⟨hq, hq2⟩ := List.getElem?_eq_some_iff.1 hr
        simp at hq hq2
        subst hq2
        rw [hr] at hx
        injection hx with hx
        subst hx
        exact (hX _ hq).2
    · obtain ⟨i, hir, rfl⟩ := List.mem_map.1 hx
      exact (hX i (List.mem_range.1 hir)).1

theorem open_cap {P : Program} {t e : TypeId} (ht : P.underlying t = some (.slice e)) (h : DataW.trod enc P W 0 (fun _ => true) true fuel t [v] = some y) : CapV v := by
  rcases open_slice ht h with ⟨hcs, _⟩ | ⟨a, len, cap, m, n, D, Pl, hcs, _, hl, hm, _⟩
  · injection hcs with hcs
    subst hcs
    exact CapV.is (Nat.le_refl _) (Nat.zero_le _)
  · injection hcs with hcs
    subst hcs
    exact CapV.is hl hm
end
end Go.Proofs.Ytddihpiheopleaa
