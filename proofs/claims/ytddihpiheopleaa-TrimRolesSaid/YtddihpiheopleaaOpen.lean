/- Arguments that are slices of integers, opened to rows of cells, for any layer. No walk. -/
import Derived.Test.YtddihpiheopleaaBase
import Derived.SliceStrings
import Derived.ChangeOld
namespace Go.Proofs.Ytddihpiheopleaa
open Go.ChangeShapes Go.WideShapes Go.ChangeAt Go.RowKit

theorem row_of_cells {W : World} {a : Addr} {len cap : Nat} {xs : List Value} (hl : xs.length = len) (hc : ∀ j u, xs[j]? = some u → W.cell? (a.add j) = some u) : Row (fun b => W.heap.size ≤ b) W (.slice (some a) len cap) xs := by
  refine .inr ⟨a, cap, by rw [hl], ?_, hc⟩
  cases xs with
  | nil => exact .inl rfl
  | cons x r =>
    have h0 := hc 0 x rfl
    have := World.block_lt_of_cell? _ _ h0
    rw [block_of_add] at this
    exact .inr ⟨this, by omega⟩

section
variable {H : Type} {enc : TypeId × Value → H} {P : Program} {W : World} {r : Reach} {b0 : Nat} {t e : TypeId} {v : Value} {d : DataW H} {ps : List MemPlace}

theorem open_row_ints {k : IntKind} (ht : P.underlying t = some (.slice e)) (he : P.underlying e = some (.int k)) (hC : P.cellsOf e = 1) (hv : Value.okWide P W r b0 t v) (h : DataW.Trod enc P W 0 (fun _ => true) true t v d ps) :
    ∃ zs : List Int, Row (fun b => W.heap.size ≤ b) W v (zs.map (Value.int k)) ∧ (∀ z ∈ zs, (Lit.int k z).wf = true) ∧ zs.length ≤ maxLen := by
  obtain ⟨a, len, cap, rfl⟩ := okWide_slice ht hv
  obtain ⟨fuel, hf⟩ := h
  rcases open_ints ht he hC hf with ⟨hcs, _⟩ | ⟨x, l, c, zs, hcs, _, hl, hm, hz, _, hcell, hwz⟩
  · simp [Value.cells] at hcs
    obtain ⟨rfl, rfl, rfl⟩ := hcs
    exact ⟨[], .inl ⟨rfl, rfl⟩, by simp, by simp⟩
  · simp [Value.cells] at hcs
    obtain ⟨rfl, rfl, rfl⟩ := hcs
    simp at hz
    refine ⟨zs.take len, row_of_cells (by simp; omega) (fun j u hj => ?_), fun z hz' => hwz z (List.mem_of_mem_take hz'), by simp; omega⟩
    rw [List.map_take, List.getElem?_take] at hj
    split at hj
    · rename_i hjl
      have hjz : j < zs.length := by omega
      rw [List.getElem?_map, List.getElem?_eq_getElem hjz] at hj
      simp at hj
      subst hj
      rw [hcell j hjz]
      simp [List.getD, hjz]
    · cases hj

end
end Go.Proofs.Ytddihpiheopleaa
