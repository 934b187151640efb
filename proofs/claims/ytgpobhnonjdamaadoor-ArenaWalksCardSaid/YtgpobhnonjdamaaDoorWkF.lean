/- Arguments that are styles, declarations, lists of them, three declarations, a node and a declaration, opened to values. No walk. -/
import Derived.Test.YtgpobhnonjdamaaDoorYV
import Derived.ChangeOld
import Derived.Test.YtgpobhnonjdamaaDoorAr6
import Derived.Test.YtgpobhnonjdamaaDoorArGood
import Derived.Test.YtgpobhnonjdamaaDoorRows
import Derived.Test.YtgpobhnonjdamaaDoorCards
import Derived.Test.YtgpobhnonjdamaaDoorTie
import Derived.Deep.DeepHandedRow
import Derived.Lib.LaidTab
namespace Go.Proofs.YtgpobhnonjdamaaDoor
open Go.ChangeShapes Go.WideShapes Go.ChangeAt Go.RowKit Go.Deep

theorem own : ownKnob Tryd.prog.godebug = none := by kernel_rfl
theorem laidOut : laidOutB Tryd.prog = true := by kernel_rfl
theorem w64_of {a : Int} (h : (Lit.int .i64 a).wf = true) : -9223372036854775808 ≤ a ∧ a ≤ 9223372036854775807 := by
  simpa [Lit.wf, IntKind.min, IntKind.max, IntKind.signed, IntKind.bits] using h
theorem w16_of {a : Int} (h : (Lit.int .u16 a).wf = true) : 0 ≤ a ∧ a ≤ 65535 := by
  simpa [Lit.wf, IntKind.min, IntKind.max, IntKind.signed, IntKind.bits] using h

/-- three declarations' cells -/
def thr (a b c : Dcl) : Array Value := #[.int .u16 (a.n : Int), .int .u8 a.s.a0, .int .u8 a.s.a1, .int .u8 a.s.a2, .int .u8 a.s.a3, .int .i64 a.s.a4, .int .i64 a.s.a5, .int .i64 a.s.a6, .int .u8 a.s.a7, .int .i64 a.s.a8, .int .u16 (b.n : Int), .int .u8 b.s.a0, .int .u8 b.s.a1, .int .u8 b.s.a2, .int .u8 b.s.a3, .int .i64 b.s.a4, .int .i64 b.s.a5, .int .i64 b.s.a6, .int .u8 b.s.a7, .int .i64 b.s.a8, .int .u16 (c.n : Int), .int .u8 c.s.a0, .int .u8 c.s.a1, .int .u8 c.s.a2, .int .u8 c.s.a3, .int .i64 c.s.a4, .int .i64 c.s.a5, .int .i64 c.s.a6, .int .u8 c.s.a7, .int .i64 c.s.a8]
/-- a node's and a declaration's cells -/
def chg (z : Int) (d : Dcl) : Array Value := #[.int .i64 z, .int .u16 (d.n : Int), .int .u8 d.s.a0, .int .u8 d.s.a1, .int .u8 d.s.a2, .int .u8 d.s.a3, .int .i64 d.s.a4, .int .i64 d.s.a5, .int .i64 d.s.a6, .int .u8 d.s.a7, .int .i64 d.s.a8]

set_option maxRecDepth 100000
section
variable {H : Type} {enc : TypeId × Value → H} {W : World} {r : Reach} {b0 : Nat} {v : Value} {d : DataW H} {ps : List MemPlace} {fuel : Nat} {cs : List Value} {y : DataW H × List MemPlace}

theorem c5 : Tryd.prog.cellsOf 5 = 1 := by kernel_rfl
theorem c3 : Tryd.prog.cellsOf 3 = 1 := by kernel_rfl
theorem c2 : Tryd.prog.cellsOf 2 = 1 := by kernel_rfl
theorem c24 : Tryd.prog.cellsOf 29 = 1 := by kernel_rfl
theorem c23 : Tryd.prog.cellsOf 31 = 9 := by kernel_rfl
theorem c26 : Tryd.prog.cellsOf 33 = 10 := by kernel_rfl

theorem sty_of (h : DataW.trod enc Tryd.prog W 0 (fun _ => true) true fuel 31 cs = some y) : ∃ s : Sty, cs = s.cells.toList := by
  obtain ⟨xs, n, _, _, hl, hyl, hf⟩ := DataW.trod_struct Tryd.underlying31 h
  have hl9 : cs.length = 9 := hl.trans c23
  have hy9 : xs.length = 9 := hyl
  match cs, hl9 with
  | [q0, q1, q2, q3, q4, q5, q6, q7, q8], _ =>
    obtain ⟨z0, g0, _, _⟩ := DataW.trod_int Tryd.underlying5 ((hf 0 _ rfl).trans (List.getElem?_eq_getElem (by omega)))
    obtain ⟨z1, g1, _, _⟩ := DataW.trod_int Tryd.underlying5 ((hf 1 _ rfl).trans (List.getElem?_eq_getElem (by omega)))
    obtain ⟨z2, g2, _, _⟩ := DataW.trod_int Tryd.underlying5 ((hf 2 _ rfl).trans (List.getElem?_eq_getElem (by omega)))
    obtain ⟨z3, g3, _, _⟩ := DataW.trod_int Tryd.underlying5 ((hf 3 _ rfl).trans (List.getElem?_eq_getElem (by omega)))
    obtain ⟨z4, g4, _, _⟩ := DataW.trod_int Tryd.underlying3 ((hf 4 _ rfl).trans (List.getElem?_eq_getElem (by omega)))
    obtain ⟨z5, g5, _, _⟩ := DataW.trod_int Tryd.underlying3 ((hf 5 _ rfl).trans (List.getElem?_eq_getElem (by omega)))
    obtain ⟨z6, g6, _, _⟩ := DataW.trod_int Tryd.underlying2 ((hf 6 _ rfl).trans (List.getElem?_eq_getElem (by omega)))
    obtain ⟨z7, g7, _, _⟩ := DataW.trod_int Tryd.underlying5 ((hf 7 _ rfl).trans (List.getElem?_eq_getElem (by omega)))
    obtain ⟨z8, g8, _, _⟩ := DataW.trod_int Tryd.underlying2 ((hf 8 _ rfl).trans (List.getElem?_eq_getElem (by omega)))
    simp [c5] at g0
    simp [c5] at g1
    simp [c5] at g2
    simp [c5] at g3
    simp [c3] at g4
    simp [c3] at g5
    simp [c2] at g6
    simp [c5] at g7
    simp [c2] at g8
    subst g0 g1 g2 g3 g4 g5 g6 g7 g8
    exact ⟨⟨z0, z1, z2, z3, z4, z5, z6, z7, z8⟩, rfl⟩

theorem dcl_of (h : DataW.trod enc Tryd.prog W 0 (fun _ => true) true fuel 33 cs = some y) : ∃ d : Dcl, cs = d.cells.toList ∧ d.n < 65536 := by
  obtain ⟨xs, n, _, _, hl, hyl, hf⟩ := DataW.trod_struct Tryd.underlying33 h
  have hl10 : cs.length = 10 := hl.trans c26
  have hy2 : xs.length = 2 := hyl
  match cs, hl10 with
  | q :: rest, hl10 =>
    obtain ⟨z, g0, _, wz⟩ := DataW.trod_int Tryd.underlying29 ((hf 0 _ rfl).trans (List.getElem?_eq_getElem (by omega)))
    simp [c24] at g0
    subst g0
    obtain ⟨s, hs⟩ := sty_of ((hf 1 _ rfl).trans (List.getElem?_eq_getElem (by omega)))
    have hr : rest.length = 9 := by simpa using hl10
    have hs' : ((Value.int .u16 z :: rest).drop 1).take (Tryd.prog.cellsOf 31) = s.cells.toList := hs
    rw [c23] at hs'
    have hs2 : rest = s.cells.toList := by
      rw [← hs']
      simp [← hr]
    have h16 := w16_of wz
    refine ⟨⟨z.toNat, s⟩, ?_, by show z.toNat < 65536; omega⟩
    rw [hs2]
    show _ = Value.int .u16 ((z.toNat : Nat) : Int) :: s.cells.toList
    rw [Int.toNat_of_nonneg h16.1]

/-- a slice of structs that are read by hf -/
theorem open_rowsP {P : Program} {t e : TypeId} {k : Nat} {α : Type} (f : α → List Value) (p : α → Prop) (ht : P.underlying t = some (.slice e)) (hC : P.cellsOf e = k) (hpos : 0 < k) (hk : ∀ x, (f x).length = k)
    (hf : ∀ (n : Nat) (cs : List Value) (y : DataW H × List MemPlace), DataW.trod enc P W 0 (fun _ => true) true n e cs = some y → ∃ x, cs = f x ∧ p x) (h : DataW.trod enc P W 0 (fun _ => true) true fuel t [v] = some y) :
    ∃ xs : List α, RowN k (fun b => W.heap.size ≤ b) W v (xs.map f) ∧ ∀ x ∈ xs, p x := by
  rcases open_slice ht h with ⟨hcs, _⟩ | ⟨a, len, cap, m, n, D, Pl, hcs, _, hl, hm, hmm, _, hi⟩
  · injection hcs with hcs
    subst hcs
    exact ⟨[], .inl ⟨rfl, rfl⟩, by simp⟩
  · injection hcs with hcs
    subst hcs
    simp only [if_true] at hmm
    subst hmm
    have key : ∀ i, i < len → ∃ x : α, p x ∧ ∀ j u, (f x)[j]? = some u → W.cell? (a.add (i * k + j)) = some u := by
      intro i hil
      obtain ⟨cs', hc, ht'⟩ := hi i (by omega)
      rw [hC] at hc
      obtain ⟨_, hcl, hat⟩ := World.cells?_some hc
      obtain ⟨x, rfl, hp⟩ := hf _ _ _ ht'
      refine ⟨x, hp, fun j u hj => ?_⟩
      have hjl : j < (f x).length := (List.getElem?_eq_some_iff.1 hj).1
      rw [hk] at hjl
      rw [← add_add, hat j (by omega)]
      exact hj
    have hnil : len = 0 ∨ ∃ x : α, True := by
      rcases Nat.eq_zero_or_pos len with h0 | h0
      · exact .inl h0
      · obtain ⟨x, _⟩ := key 0 h0
        exact .inr ⟨x, trivial⟩
    rcases hnil with rfl | ⟨x0, _⟩
    · refine ⟨[], .inr ⟨a, m, rfl, .inl rfl, fun i x hx => by simp at hx⟩, by simp⟩
    let X : Nat → α := fun i => if h : i < len then (key i h).choose else x0
    have hX : ∀ i, i < len → p (X i) ∧ ∀ j u, (f (X i))[j]? = some u → W.cell? (a.add (i * k + j)) = some u := by
      intro i hil
      have := (key i hil).choose_spec
      simp only [X, dif_pos hil]
      exact this
    refine ⟨(List.range len).map X, .inr ⟨a, m, by simp, ?_, fun i x hx => ?_⟩, fun x hx => ?_⟩
    · rcases Nat.eq_zero_or_pos len with h0 | h0
      · subst h0; exact .inl rfl
      · right
        obtain ⟨_, hc⟩ := hX 0 h0
        have h2 := hc 0 _ (List.getElem?_eq_getElem (by rw [hk]; exact hpos))
        have := World.block_lt_of_cell? _ _ h2
        rw [block_of_add] at this
        exact ⟨this, by omega⟩
    · rw [List.map_map, List.getElem?_map] at hx
      cases hr : (List.range len)[i]? with
      | none => rw [hr] at hx; cases hx
      | some q =>
        obtain ⟨hq, hq2⟩ := List.getElem?_eq_some_iff.1 hr
        simp at hq hq2
        subst hq2
        rw [hr] at hx
        injection hx with hx
        subst hx
        exact (hX _ hq).2
    · obtain ⟨i, hir, rfl⟩ := List.mem_map.1 hx
      exact (hX i (List.mem_range.1 hir)).1

theorem open_ds (hv : Value.okWide Tryd.prog W r b0 81 v) (h : DataW.Trod enc Tryd.prog W 0 (fun _ => true) true 81 v d ps) : ∃ ds : List Dcl, Ds W v ds ∧ Wf16 ds := by
  obtain ⟨a, len, cap, rfl⟩ := okWide_slice Tryd.underlying81 hv
  obtain ⟨f, hf⟩ := h
  obtain ⟨ds, h1, h2⟩ := open_rowsP (fun d : Dcl => d.cells.toList) (fun d => d.n < 65536) Tryd.underlying81 c26 (by omega) (fun _ => rfl) (fun n cs y hy => dcl_of hy) hf
  refine ⟨ds, RowN.mono h1 fun _ _ h => h.elim, fun i hi => ?_⟩
  have := getD_of Dcl.zero hi
  exact h2 _ (List.mem_of_getElem? this)
theorem open_sty (hv : Value.okWide Tryd.prog W r b0 31 v) (h : DataW.Trod enc Tryd.prog W 0 (fun _ => true) true 31 v d ps) : ∃ s : Sty, v = .agg s.cells := by
  obtain ⟨cs, rfl, hsz⟩ := okWide_struct Tryd.underlying31 hv
  obtain ⟨f, hf⟩ := h
  obtain ⟨s, hs⟩ := sty_of hf
  exact ⟨s, by rw [← Array.toList_inj.1 hs]; rfl⟩
theorem open_dcl (hv : Value.okWide Tryd.prog W r b0 33 v) (h : DataW.Trod enc Tryd.prog W 0 (fun _ => true) true 33 v d ps) : ∃ s : Dcl, v = .agg s.cells ∧ s.n < 65536 := by
  obtain ⟨cs, rfl, hsz⟩ := okWide_struct Tryd.underlying33 hv
  obtain ⟨f, hf⟩ := h
  obtain ⟨s, hs, h16⟩ := dcl_of hf
  exact ⟨s, by rw [← Array.toList_inj.1 hs]; rfl, h16⟩
end
end Go.Proofs.YtgpobhnonjdamaaDoor

/- Arguments that are lists of nodes, opened to values. No walk. -/
namespace Go.Proofs.YtgpobhnonjdamaaDoor
open Go.ChangeShapes Go.WideShapes Go.ChangeAt Go.RowKit Go.Deep

set_option maxRecDepth 100000
section
variable {H : Type} {enc : TypeId × Value → H} {W : World} {r : Reach} {b0 : Nat} {v : Value} {d : DataW H} {ps : List MemPlace} {fuel : Nat} {cs : List Value} {y : DataW H × List MemPlace}

theorem w8_of {a : Int} (h : (Lit.int .u8 a).wf = true) : 0 ≤ a ∧ a ≤ 255 := by
  simpa [Lit.wf, IntKind.min, IntKind.max, IntKind.signed, IntKind.bits] using h
theorem c9 : Tryd.prog.cellsOf 9 = 1 := by kernel_rfl
theorem c37 : Tryd.prog.cellsOf 37 = 22 := by kernel_rfl
theorem cV : Tryd.prog.cellsOf 35 = 2 := by kernel_rfl

theorem val_of (h : DataW.trod enc Tryd.prog W 0 (fun _ => true) true fuel 35 cs = some y) : ∃ k n : Int, cs = [.int .u8 k, .int .i64 n] ∧ 0 ≤ k := by
  obtain ⟨xs, n, _, _, hl, hyl, hf⟩ := DataW.trod_struct Tryd.underlying35 h
  have hl2 : cs.length = 2 := hl.trans cV
  have hy2 : xs.length = 2 := hyl
  match cs, hl2 with
  | [q0, q1], _ =>
    obtain ⟨z0, g0, _, w0⟩ := DataW.trod_int Tryd.underlying5 ((hf 0 _ rfl).trans (List.getElem?_eq_getElem (by omega)))
    obtain ⟨z1, g1, _, _⟩ := DataW.trod_int Tryd.underlying2 ((hf 1 _ rfl).trans (List.getElem?_eq_getElem (by omega)))
    simp [c5] at g0
    simp [c2] at g1
    subst g0 g1
    exact ⟨z0, z1, rfl, (w8_of w0).1⟩

theorem nod_of (h : DataW.trod enc Tryd.prog W 0 (fun _ => true) true fuel 37 cs = some y) : ∃ x : Nod, cs = x.cells.toList ∧ WfN x := by
  obtain ⟨xs, n, _, _, hl, hyl, hf⟩ := DataW.trod_struct Tryd.underlying37 h
  have hl22 : cs.length = 22 := hl.trans c37
  have hy : xs.length = 12 := hyl
  obtain ⟨d, hd, wd⟩ := dcl_of ((hf 3 _ rfl).trans (List.getElem?_eq_getElem (by omega)))
  obtain ⟨vk, vn, hval, wv⟩ := val_of ((hf 4 _ rfl).trans (List.getElem?_eq_getElem (by omega)))
  obtain ⟨z0, g0, _, w0⟩ := DataW.trod_int Tryd.underlying5 ((hf 0 _ rfl).trans (List.getElem?_eq_getElem (by omega)))
  obtain ⟨z1, g1, _, _⟩ := DataW.trod_int Tryd.underlying3 ((hf 1 _ rfl).trans (List.getElem?_eq_getElem (by omega)))
  obtain ⟨s2, g2, _, w2⟩ := DataW.trod_string Tryd.underlying9 ((hf 2 _ rfl).trans (List.getElem?_eq_getElem (by omega)))
  obtain ⟨z5, g5, _, _⟩ := DataW.trod_int Tryd.underlying2 ((hf 5 _ rfl).trans (List.getElem?_eq_getElem (by omega)))
  obtain ⟨z6, g6, _, _⟩ := DataW.trod_int Tryd.underlying2 ((hf 6 _ rfl).trans (List.getElem?_eq_getElem (by omega)))
  obtain ⟨z7, g7, _, _⟩ := DataW.trod_int Tryd.underlying2 ((hf 7 _ rfl).trans (List.getElem?_eq_getElem (by omega)))
  obtain ⟨z8, g8, _, _⟩ := DataW.trod_int Tryd.underlying2 ((hf 8 _ rfl).trans (List.getElem?_eq_getElem (by omega)))
  obtain ⟨z9, g9, _, _⟩ := DataW.trod_int Tryd.underlying2 ((hf 9 _ rfl).trans (List.getElem?_eq_getElem (by omega)))
  obtain ⟨z10, g10, _, _⟩ := DataW.trod_int Tryd.underlying3 ((hf 10 _ rfl).trans (List.getElem?_eq_getElem (by omega)))
  obtain ⟨z11, g11, _, _⟩ := DataW.trod_int Tryd.underlying3 ((hf 11 _ rfl).trans (List.getElem?_eq_getElem (by omega)))
  have e0 : (cs.drop 0).take 1 = [.int .u8 z0] := g0
  have e1 : (cs.drop 1).take 1 = [.int .i64 z1] := g1
  have e2 : (cs.drop 2).take 1 = [.string s2] := g2
  have e3 : (cs.drop 3).take 10 = d.cells.toList := hd
  have e4 : (cs.drop 13).take 2 = [.int .u8 vk, .int .i64 vn] := hval
  have e5 : (cs.drop 15).take 1 = [.int .i64 z5] := g5
  have e6 : (cs.drop 16).take 1 = [.int .i64 z6] := g6
  have e7 : (cs.drop 17).take 1 = [.int .i64 z7] := g7
  have e8 : (cs.drop 18).take 1 = [.int .i64 z8] := g8
  have e9 : (cs.drop 19).take 1 = [.int .i64 z9] := g9
  have e10 : (cs.drop 20).take 1 = [.int .i64 z10] := g10
  have e11 : (cs.drop 21).take 1 = [.int .i64 z11] := g11
  have hk := w8_of w0
  refine ⟨⟨z0, z1, s2, d, vk, vn, z5, z6, z7, z8, z9, z10, z11⟩, ?_, hk.1, hk.2, wd, w2, wv⟩
  have st : ∀ (a k : Nat), cs.drop a = (cs.drop a).take k ++ cs.drop (a + k) := fun a k => by
    rw [← List.drop_drop, List.take_append_drop]
  have f0 : cs = cs.drop 0 := rfl
  rw [f0, st 0 1, st (0 + 1) 1, st (0 + 1 + 1) 1, st (0 + 1 + 1 + 1) 10, st (0 + 1 + 1 + 1 + 10) 2, st (0 + 1 + 1 + 1 + 10 + 2) 1, st (0 + 1 + 1 + 1 + 10 + 2 + 1) 1, st (0 + 1 + 1 + 1 + 10 + 2 + 1 + 1) 1, st (0 + 1 + 1 + 1 + 10 + 2 + 1 + 1 + 1) 1, st (0 + 1 + 1 + 1 + 10 + 2 + 1 + 1 + 1 + 1) 1, st (0 + 1 + 1 + 1 + 10 + 2 + 1 + 1 + 1 + 1 + 1) 1, st (0 + 1 + 1 + 1 + 10 + 2 + 1 + 1 + 1 + 1 + 1 + 1) 1]
  simp only [Nat.zero_add, Nat.reduceAdd]
  rw [e0, e1, e2, e3, e4, e5, e6, e7, e8, e9, e10, e11, List.drop_of_length_le (by omega)]
  rfl

theorem open_ns (hv : Value.okWide Tryd.prog W r b0 22 v) (h : DataW.Trod enc Tryd.prog W 0 (fun _ => true) true 22 v d ps) : ∃ l : List Nod, Ns W v l ∧ WfL l ∧ l.length ≤ 9223372036854775807 := by
  obtain ⟨a, len, cap, rfl⟩ := okWide_slice Tryd.underlying22 hv
  obtain ⟨f, hf⟩ := h
  obtain ⟨l, h1, h2⟩ := open_rowsP (fun x : Nod => x.cells.toList) WfN Tryd.underlying22 c37 (by omega) (fun _ => rfl) (fun n cs y hy => nod_of hy) hf
  refine ⟨l, RowN.mono h1 fun _ _ h => h.elim, fun i x hx => h2 x (List.mem_of_getElem? hx), ?_⟩
  have hlen : len = l.length := by
    obtain ⟨A, c, hA⟩ := RowN.form h1
    rw [List.length_map] at hA
    injection hA with _ hA _
  rw [← hlen]
  rcases open_slice Tryd.underlying22 hf with ⟨hcs, _⟩ | ⟨a', len', cap', m, n, D, Pl, hcs, _, hl, hm, _⟩
  · simp [Value.cells] at hcs
    omega
  · simp [Value.cells] at hcs
    obtain ⟨_, rfl, rfl⟩ := hcs
    have : maxLen = 9223372036854775807 := rfl
    omega
end
end Go.Proofs.YtgpobhnonjdamaaDoor

/- What the rows' list of package variables gives: the tables of kinds lie in memory as the program's text lays them; and a world for the witness. -/
namespace Go.Proofs.YtgpobhnonjdamaaDoor
open Go.ChangeShapes Go.WideShapes Go.ChangeAt Go.RowKit

theorem cT9 : Tryd.prog.cellsOf 79 = 9 := by kernel_rfl
theorem cBool : Tryd.prog.cellsOf 4 = 1 := by kernel_rfl
def bagg (bs : List Bool) : DataW Unit := .agg (bs.map fun b => .lit (.bool b))

theorem tab1 {W : World} {n : String} {g g' : Nat} {t : TypeId} {cs : Array Value} {fuel : Nat} {p : List MemPlace} {bs : List Bool} (h9 : bs.length = 9) (hn : Tryd.prog.globalNamed n = some g) (hT : (Tryd.prog.globals[g]?).map (·.type) = some 79)
    (hg : Tryd.prog.globalNamed n = some g') (ht : (Tryd.prog.globals[g']?).map (·.type) = some t) (hv : W.var? Tryd.prog n = some cs) (hd : DataW.trod (fun _ => ()) Tryd.prog W 0 (fun _ => true) false fuel t cs.toList = some (bagg bs, p)) : TabAt W g bs := by
  obtain rfl := Option.some.inj (hn.symm.trans hg)
  obtain rfl := Option.some.inj (hT.symm.trans ht)
  have hcs : cs = (bs.map Value.bool).toArray := by
    obtain ⟨cl⟩ := cs
    cases fuel with
    | zero => simp [DataW.trod] at hd
    | succ fuel =>
      simp only [DataW.trod, Tryd.underlying79, cT9, cBool] at hd
      split at hd
      · rename_i hl
        have hl2 : cl.length = 9 := hl
        obtain ⟨xs, hm, hx⟩ := Option.map_eq_some_iff.1 hd
        have hxs : xs.map (·.1) = bs.map fun b => (.lit (.bool b) : DataW Unit) := by
          have := congrArg Prod.fst hx
          simpa [bagg] using this
        have key : ∀ i, i < 9 → cl[i]? = (bs.map Value.bool)[i]? := by
          intro i hi
          obtain ⟨b, hb, hf⟩ := Lib.mapM_at hm i i (by simp [hi])
          obtain ⟨c, hc, hcx⟩ := DataW.trod_bool Tryd.underlying4 hf
          have h1 : (xs.map (·.1))[i]? = some b.1 := by rw [List.getElem?_map, hb]; rfl
          rw [hxs, hcx, List.getElem?_map] at h1
          have h2 : bs[i]? = some c := by
            cases hbi : bs[i]? with
            | none => rw [hbi] at h1; cases h1
            | some c' =>
              rw [hbi] at h1
              simp at h1
              rw [h1]
          rw [List.getElem?_map, h2]
          have h3 : ((cl.drop (i * 1)).take 1)[0]? = some (.bool c) := by rw [hc]; rfl
          simpa using h3
        have : cl = bs.map Value.bool := by
          apply List.ext_getElem?
          intro i
          by_cases hi : i < 9
          · exact key i hi
          · rw [List.getElem?_eq_none (by omega), List.getElem?_eq_none (by rw [List.length_map]; omega)]
        rw [this]
      · cases hd
  rw [hcs] at hv
  simp only [World.var?, hn, Option.bind_some] at hv
  split at hv
  · rename_i c t' fr hb
    cases hv
    exact ⟨t', fr, hb⟩
  · cases hv

/-- WHAT THE ROW's LIST GIVES -/
theorem tab_of {W : World} (h : laidMetH Tryd.prog Rows.arenaTellsRow.laid W) : Tab W := by
  have h2 : laidMet Tryd.prog Rows.arenaTellsRow.laid W := h
  obtain ⟨ps, ⟨g1, t1, c1, f1, p1, q1, hg1, ht1, hv1, hd1, ⟨g2, t2, c2, f2, p2, q2, hg2, ht2, hv2, hd2, ⟨g3, t3, c3, f3, p3, q3, hg3, ht3, hv3, hd3, ⟨g4, t4, c4, f4, p4, q4, hg4, ht4, hv4, hd4, ⟨g5, t5, c5, f5, p5, q5, hg5, ht5, hv5, hd5, ⟨g6, t6, c6, f6, p6, q6, hg6, ht6, hv6, hd6, ⟨g7, t7, c7, f7, p7, q7, hg7, ht7, hv7, hd7, _, _⟩, _⟩, _⟩, _⟩, _⟩, _⟩, _⟩, _⟩ := h2
  exact ⟨tab1 (bs := tLines) rfl (by kernel_rfl) (by kernel_rfl) hg2 ht2 hv2 hd2, tab1 (bs := tRuby) rfl (by kernel_rfl) (by kernel_rfl) hg7 ht7 hv7 hd7, tab1 (bs := tKids) rfl (by kernel_rfl) (by kernel_rfl) hg1 ht1 hv1 hd1,
    tab1 (bs := tText) rfl (by kernel_rfl) (by kernel_rfl) hg3 ht3 hv3 hd3, tab1 (bs := tEdges) rfl (by kernel_rfl) (by kernel_rfl) hg4 ht4 hv4 hd4, tab1 (bs := tSize) rfl (by kernel_rfl) (by kernel_rfl) hg5 ht5 hv5 hd5, tab1 (bs := tValign) rfl (by kernel_rfl) (by kernel_rfl) hg6 ht6 hv6 hd6⟩

/-- a world for the witness: the settled one, the tables holding what their initialisers lay -/
def putT (bs : List Bool) : Obj → Obj
  | .cells _ t frozen => .cells (bs.map Value.bool).toArray t frozen
  | o => o
noncomputable def laidWorld (os : Os) : World :=
  { World.holding Tryd.prog os ⟨#[], #[], []⟩ with heap := ((((((((World.holding Tryd.prog os ⟨#[], #[], []⟩).heap.modify 0 (putT tLines)).modify 1 (putT tRuby)).modify 2 (putT tKids)).modify 3 (putT tText)).modify 4 (putT tEdges)).modify 5 (putT tSize)).modify 6 (putT tValign)) }
end Go.Proofs.YtgpobhnonjdamaaDoor
