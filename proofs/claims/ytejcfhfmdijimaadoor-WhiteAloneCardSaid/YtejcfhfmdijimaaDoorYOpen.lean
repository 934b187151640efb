/- Arguments that are styles, declarations, lists of them, three declarations, a node and a declaration, opened to values. No walk. -/
import Derived.Test.YtejcfhfmdijimaaDoorYV
import Derived.ChangeOld
namespace Go.Proofs.YtejcfhfmdijimaaDoor
open Go.ChangeShapes Go.WideShapes Go.ChangeAt Go.RowKit Go.Deep

theorem own : ownKnob Tryd.prog.godebug = none := by kernel_rfl
theorem laidOut : laidOutB Tryd.prog = true := by kernel_rfl
theorem w64_of {a : Int} (h : (Lit.int .i64 a).wf = true) : -9223372036854775808 ≤ a ∧ a ≤ 9223372036854775807 := by
  simpa [Lit.wf, IntKind.min, IntKind.max, IntKind.signed, IntKind.bits] using h
theorem w16_of {a : Int} (h : (Lit.int .u16 a).wf = true) : 0 ≤ a ∧ a ≤ 65535 := by
  simpa [Lit.wf, IntKind.min, IntKind.max, IntKind.signed, IntKind.bits] using h

/-- three declarations' cells -/
def thr (a b c : Dcl) : Array Value := #[.int .u16 (a.n : Int), .int .u8 a.s.a0, .int .u8 a.s.a1, .int .u8 a.s.a2, .int .u8 a.s.a3, .int .i64 a.s.a4, .int .i64 a.s.a5, .int .i64 a.s.a6, .int .u8 a.s.a7, .int .i64 a.s.a8, .int .u16 (b.n : Int), .int .u8 b.s.a0, .int .u8 b.s.a1, .int .u8 b.s.a2, .int .u8 b.s.a3, .int .i64 b.s.a4, .int .i64 b.s.a5, .int .i64 b.s.a6, .int .u8 b.s.a7, .int .i64 b.s.a8, .int .u16 (c.n : Int), .int .u8 c.s.a0, .int .u8 c.s.a1, .int .u8 c.s.a2, .int .u8 c.s.a3, .int .i64 c.s.a4, .int .i64 c.s.a5, .int .i64 c.s.a6, .int .u8 c.s.a7, .int .i64 c.s.a8]
/-- a node's and a declaration's cells -/
def chg (z : Int) (d : Dcl) : Array Value := #[.int .i64 z, .int .u16 (d.n : Int), .int .u8 d.s.a0, .int .u8 d.s.a1, .int .u8 d.s.a2, .int .u8 d.s.a3, .int .i64 d.s.a4, .int .i64 d.s.a5, .int .i64 d.s.a6, .int .u8 d.s.a7, .int .i64 d.s.a8]

set_option maxRecDepth 100000
section
variable {H : Type} {enc : TypeId × Value → H} {W : World} {r : Reach} {b0 : Nat} {v : Value} {d : DataW H} {ps : List MemPlace} {fuel : Nat} {cs : List Value} {y : DataW H × List MemPlace}

theorem c5 : Tryd.prog.cellsOf 5 = 1 := by kernel_rfl
theorem c3 : Tryd.prog.cellsOf 3 = 1 := by kernel_rfl
theorem c2 : Tryd.prog.cellsOf 2 = 1 := by kernel_rfl
theorem c23 : Tryd.prog.cellsOf 33 = 9 := by kernel_rfl
theorem sty_of (h : DataW.trod enc Tryd.prog W 0 (fun _ => true) true fuel 33 cs = some y) : ∃ s : Sty, cs = s.cells.toList := by
  obtain ⟨xs, n, _, _, hl, hyl, hf⟩ := DataW.trod_struct Tryd.underlying33 h
  have hl9 : cs.length = 9 := hl.trans c23
  have hy9 : xs.length = 9 := hyl
  match cs, hl9 with
  | [q0, q1, q2, q3, q4, q5, q6, q7, q8], _ =>
    obtain ⟨z0, g0, _, _⟩ := DataW.trod_int Tryd.underlying5 ((hf 0 _ rfl).trans (List.getElem?_eq_getElem (by omega)))
    obtain ⟨z1, g1, _, _⟩ := DataW.trod_int Tryd.underlying5 ((hf 1 _ rfl).trans (List.getElem?_eq_getElem (by omega)))
    obtain ⟨z2, g2, _, _⟩ := DataW.trod_int Tryd.underlying5 ((hf 2 _ rfl).trans (List.getElem?_eq_getElem (by omega)))
    obtain ⟨z3, g3, _, _⟩ := DataW.trod_int Tryd.underlying5 ((hf 3 _ rfl).trans (List.getElem?_eq_getElem (by omega)))
    obtain ⟨z4, g4, _, _⟩ := DataW.trod_int Tryd.underlying3 ((hf 4 _ rfl).trans (List.getElem?_eq_getElem (by omega)))
    obtain ⟨z5, g5, _, _⟩ := DataW.trod_int Tryd.underlying3 ((hf 5 _ rfl).trans (List.getElem?_eq_getElem (by omega)))
    obtain ⟨z6, g6, _, _⟩ := DataW.trod_int Tryd.underlying2 ((hf 6 _ rfl).trans (List.getElem?_eq_getElem (by omega)))
    obtain ⟨z7, g7, _, _⟩ := DataW.trod_int Tryd.underlying5 ((hf 7 _ rfl).trans (List.getElem?_eq_getElem (by omega)))
    obtain ⟨z8, g8, _, _⟩ := DataW.trod_int Tryd.underlying2 ((hf 8 _ rfl).trans (List.getElem?_eq_getElem (by omega)))
    simp [c5] at g0
    simp [c5] at g1
    simp [c5] at g2
    simp [c5] at g3
    simp [c3] at g4
    simp [c3] at g5
    simp [c2] at g6
    simp [c5] at g7
    simp [c2] at g8
    subst g0 g1 g2 g3 g4 g5 g6 g7 g8
    exact ⟨⟨z0, z1, z2, z3, z4, z5, z6, z7, z8⟩, rfl⟩

/-- a slice of structs that are read by hf -/
theorem open_rowsP {P : Program} {t e : TypeId} {k : Nat} {α : Type} (f : α → List Value) (p : α → Prop) (ht : P.underlying t = some (.slice e)) (hC : P.cellsOf e = k) (hpos : 0 < k) (hk : ∀ x, (f x).length = k)
    (hf : ∀ (n : Nat) (cs : List Value) (y : DataW H × List MemPlace), DataW.trod enc P W 0 (fun _ => true) true n e cs = some y → ∃ x, cs = f x ∧ p x) (h : DataW.trod enc P W 0 (fun _ => true) true fuel t [v] = some y) :
    ∃ xs : List α, RowN k (fun b => W.heap.size ≤ b) W v (xs.map f) ∧ ∀ x ∈ xs, p x := by
  rcases open_slice ht h with ⟨hcs, _⟩ | ⟨a, len, cap, m, n, D, Pl, hcs, _, hl, hm, hmm, _, hi⟩
  · injection hcs with hcs
    subst hcs
    exact ⟨[], .inl ⟨rfl, rfl⟩, by simp⟩
  · injection hcs with hcs
    subst hcs
    simp only [if_true] at hmm
    subst hmm
    have key : ∀ i, i < len → ∃ x : α, p x ∧ ∀ j u, (f x)[j]? = some u → W.cell? (a.add (i * k + j)) = some u := by
      intro i hil
      obtain ⟨cs', hc, ht'⟩ := hi i (by omega)
      rw [hC] at hc
      obtain ⟨_, hcl, hat⟩ := World.cells?_some hc
      obtain ⟨x, rfl, hp⟩ := hf _ _ _ ht'
      refine ⟨x, hp, fun j u hj => ?_⟩
      have hjl : j < (f x).length := (List.getElem?_eq_some_iff.1 hj).1
      rw [hk] at hjl
      rw [← add_add, hat j (by omega)]
      exact hj
    have hnil : len = 0 ∨ ∃ x : α, True := by
      rcases Nat.eq_zero_or_pos len with h0 | h0
      · exact .inl h0
      · obtain ⟨x, _⟩ := key 0 h0
        exact .inr ⟨x, trivial⟩
    rcases hnil with rfl | ⟨x0, _⟩
    · refine ⟨[], .inr ⟨a, m, rfl, .inl rfl, fun i x hx => by simp at hx⟩, by simp⟩
    let X : Nat → α := fun i => if h : i < len then (key i h).choose else x0
    have hX : ∀ i, i < len → p (X i) ∧ ∀ j u, (f (X i))[j]? = some u → W.cell? (a.add (i * k + j)) = some u := by
      intro i hil
      have := (key i hil).choose_spec
      simp only [X, dif_pos hil]
      exact this
    refine ⟨(List.range len).map X, .inr ⟨a, m, by simp, ?_, fun i x hx => ?_⟩, fun x hx => ?_⟩
    · rcases Nat.eq_zero_or_pos len with h0 | h0
      · subst h0; exact .inl rfl
      · right
        obtain ⟨_, hc⟩ := hX 0 h0
        have h2 := hc 0 _ (List.getElem?_eq_getElem (by rw [hk]; exact hpos))
        have := World.block_lt_of_cell? _ _ h2
        rw [block_of_add] at this
        exact ⟨this, by omega⟩
    · rw [List.map_map, List.getElem?_map] at hx
      cases hr : (List.range len)[i]? with
      | none => rw [hr] at hx; cases hx
      | some q =>
        obtain ⟨hq, hq2⟩ := List.getElem?_eq_some_iff.1 hr
        simp at hq hq2
        subst hq2
        rw [hr] at hx
        injection hx with hx
        subst hx
        exact (hX _ hq).2
    · obtain ⟨i, hir, rfl⟩ := List.mem_map.1 hx
      exact (hX i (List.mem_range.1 hir)).1

theorem open_sty (hv : Value.okWide Tryd.prog W r b0 33 v) (h : DataW.Trod enc Tryd.prog W 0 (fun _ => true) true 33 v d ps) : ∃ s : Sty, v = .agg s.cells := by
  obtain ⟨cs, rfl, hsz⟩ := okWide_struct Tryd.underlying33 hv
  obtain ⟨f, hf⟩ := h
  obtain ⟨s, hs⟩ := sty_of hf
  exact ⟨s, by rw [← Array.toList_inj.1 hs]; rfl⟩
end
end Go.Proofs.YtejcfhfmdijimaaDoor
