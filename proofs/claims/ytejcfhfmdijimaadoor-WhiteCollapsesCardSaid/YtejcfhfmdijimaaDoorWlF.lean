/- Arguments that are styles, declarations, lists of them, three declarations, a node and a declaration, opened to values. No walk. -/
import Derived.Test.YtejcfhfmdijimaaDoorYV
import Derived.ChangeOld
import Derived.Test.YtejcfhfmdijimaaDoorWhRow
import Derived.Test.YtejcfhfmdijimaaDoorWhE
import Derived.Test.YtejcfhfmdijimaaDoorRows
import Derived.Test.YtejcfhfmdijimaaDoorCards
import Derived.Test.YtejcfhfmdijimaaDoorTie
import Derived.Deep.DeepHandedRow
import Derived.Lib.LaidTab
namespace Go.Proofs.YtejcfhfmdijimaaDoor
open Go.ChangeShapes Go.WideShapes Go.ChangeAt Go.RowKit Go.Deep

theorem own : ownKnob Tryd.prog.godebug = none := by kernel_rfl
theorem laidOut : laidOutB Tryd.prog = true := by kernel_rfl
theorem w64_of {a : Int} (h : (Lit.int .i64 a).wf = true) : -9223372036854775808 ≤ a ∧ a ≤ 9223372036854775807 := by
  simpa [Lit.wf, IntKind.min, IntKind.max, IntKind.signed, IntKind.bits] using h
theorem w16_of {a : Int} (h : (Lit.int .u16 a).wf = true) : 0 ≤ a ∧ a ≤ 65535 := by
  simpa [Lit.wf, IntKind.min, IntKind.max, IntKind.signed, IntKind.bits] using h

/-- three declarations' cells -/
def thr (a b c : Dcl) : Array Value := #[.int .u16 (a.n : Int), .int .u8 a.s.a0, .int .u8 a.s.a1, .int .u8 a.s.a2, .int .u8 a.s.a3, .int .i64 a.s.a4, .int .i64 a.s.a5, .int .i64 a.s.a6, .int .u8 a.s.a7, .int .i64 a.s.a8, .int .u16 (b.n : Int), .int .u8 b.s.a0, .int .u8 b.s.a1, .int .u8 b.s.a2, .int .u8 b.s.a3, .int .i64 b.s.a4, .int .i64 b.s.a5, .int .i64 b.s.a6, .int .u8 b.s.a7, .int .i64 b.s.a8, .int .u16 (c.n : Int), .int .u8 c.s.a0, .int .u8 c.s.a1, .int .u8 c.s.a2, .int .u8 c.s.a3, .int .i64 c.s.a4, .int .i64 c.s.a5, .int .i64 c.s.a6, .int .u8 c.s.a7, .int .i64 c.s.a8]
/-- a node's and a declaration's cells -/
def chg (z : Int) (d : Dcl) : Array Value := #[.int .i64 z, .int .u16 (d.n : Int), .int .u8 d.s.a0, .int .u8 d.s.a1, .int .u8 d.s.a2, .int .u8 d.s.a3, .int .i64 d.s.a4, .int .i64 d.s.a5, .int .i64 d.s.a6, .int .u8 d.s.a7, .int .i64 d.s.a8]

set_option maxRecDepth 100000
section
variable {H : Type} {enc : TypeId × Value → H} {W : World} {r : Reach} {b0 : Nat} {v : Value} {d : DataW H} {ps : List MemPlace} {fuel : Nat} {cs : List Value} {y : DataW H × List MemPlace}

theorem c5 : Tryd.prog.cellsOf 5 = 1 := by kernel_rfl
theorem c3 : Tryd.prog.cellsOf 3 = 1 := by kernel_rfl
theorem c2 : Tryd.prog.cellsOf 2 = 1 := by kernel_rfl
theorem c23 : Tryd.prog.cellsOf 33 = 9 := by kernel_rfl
theorem sty_of (h : DataW.trod enc Tryd.prog W 0 (fun _ => true) true fuel 33 cs = some y) : ∃ s : Sty, cs = s.cells.toList := by
  obtain ⟨xs, n, _, _, hl, hyl, hf⟩ := DataW.trod_struct Tryd.underlying33 h
  have hl9 : cs.length = 9 := hl.trans c23
  have hy9 : xs.length = 9 := hyl
  match cs, hl9 with
  | [q0, q1, q2, q3, q4, q5, q6, q7, q8], _ =>
    obtain ⟨z0, g0, _, _⟩ := DataW.trod_int Tryd.underlying5 ((hf 0 _ rfl).trans (List.getElem?_eq_getElem (by omega)))
    obtain ⟨z1, g1, _, _⟩ := DataW.trod_int Tryd.underlying5 ((hf 1 _ rfl).trans (List.getElem?_eq_getElem (by omega)))
    obtain ⟨z2, g2, _, _⟩ := DataW.trod_int Tryd.underlying5 ((hf 2 _ rfl).trans (List.getElem?_eq_getElem (by omega)))
    obtain ⟨z3, g3, _, _⟩ := DataW.trod_int Tryd.underlying5 ((hf 3 _ rfl).trans (List.getElem?_eq_getElem (by omega)))
    obtain ⟨z4, g4, _, _⟩ := DataW.trod_int Tryd.underlying3 ((hf 4 _ rfl).trans (List.getElem?_eq_getElem (by omega)))
    obtain ⟨z5, g5, _, _⟩ := DataW.trod_int Tryd.underlying3 ((hf 5 _ rfl).trans (List.getElem?_eq_getElem (by omega)))
    obtain ⟨z6, g6, _, _⟩ := DataW.trod_int Tryd.underlying2 ((hf 6 _ rfl).trans (List.getElem?_eq_getElem (by omega)))
    obtain ⟨z7, g7, _, _⟩ := DataW.trod_int Tryd.underlying5 ((hf 7 _ rfl).trans (List.getElem?_eq_getElem (by omega)))
    obtain ⟨z8, g8, _, _⟩ := DataW.trod_int Tryd.underlying2 ((hf 8 _ rfl).trans (List.getElem?_eq_getElem (by omega)))
    simp [c5] at g0
    simp [c5] at g1
    simp [c5] at g2
    simp [c5] at g3
    simp [c3] at g4
    simp [c3] at g5
    simp [c2] at g6
    simp [c5] at g7
    simp [c2] at g8
    subst g0 g1 g2 g3 g4 g5 g6 g7 g8
    exact ⟨⟨z0, z1, z2, z3, z4, z5, z6, z7, z8⟩, rfl⟩

/-- a slice of structs that are read by hf -/
theorem open_rowsP {P : Program} {t e : TypeId} {k : Nat} {α : Type} (f : α → List Value) (p : α → Prop) (ht : P.underlying t = some (.slice e)) (hC : P.cellsOf e = k) (hpos : 0 < k) (hk : ∀ x, (f x).length = k)
    (hf : ∀ (n : Nat) (cs : List Value) (y : DataW H × List MemPlace), DataW.trod enc P W 0 (fun _ => true) true n e cs = some y → ∃ x, cs = f x ∧ p x) (h : DataW.trod enc P W 0 (fun _ => true) true fuel t [v] = some y) :
    ∃ xs : List α, RowN k (fun b => W.heap.size ≤ b) W v (xs.map f) ∧ ∀ x ∈ xs, p x := by
  rcases open_slice ht h with ⟨hcs, _⟩ | ⟨a, len, cap, m, n, D, Pl, hcs, _, hl, hm, hmm, _, hi⟩
  · injection hcs with hcs
    subst hcs
    exact ⟨[], .inl ⟨rfl, rfl⟩, by simp⟩
  · injection hcs with hcs
    subst hcs
    simp only [if_true] at hmm
    subst hmm
    have key : ∀ i, i < len → ∃ x : α, p x ∧ ∀ j u, (f x)[j]? = some u → W.cell? (a.add (i * k + j)) = some u := by
      intro i hil
      obtain ⟨cs', hc, ht'⟩ := hi i (by omega)
      rw [hC] at hc
      obtain ⟨_, hcl, hat⟩ := World.cells?_some hc
      obtain ⟨x, rfl, hp⟩ := hf _ _ _ ht'
      refine ⟨x, hp, fun j u hj => ?_⟩
      have hjl : j < (f x).length := (List.getElem?_eq_some_iff.1 hj).1
      rw [hk] at hjl
      rw [← add_add, hat j (by omega)]
      exact hj
    have hnil : len = 0 ∨ ∃ x : α, True := by
      rcases Nat.eq_zero_or_pos len with h0 | h0
      · exact .inl h0
      · obtain ⟨x, _⟩ := key 0 h0
        exact .inr ⟨x, trivial⟩
    rcases hnil with rfl | ⟨x0, _⟩
    · refine ⟨[], .inr ⟨a, m, rfl, .inl rfl, fun i x hx => by simp at hx⟩, by simp⟩
    let X : Nat → α := fun i => if h : i < len then (key i h).choose else x0
    have hX : ∀ i, i < len → p (X i) ∧ ∀ j u, (f (X i))[j]? = some u → W.cell? (a.add (i * k + j)) = some u := by
      intro i hil
      have := (key i hil).choose_spec
      simp only [X, dif_pos hil]
      exact this
    refine ⟨(List.range len).map X, .inr ⟨a, m, by simp, ?_, fun i x hx => ?_⟩, fun x hx => ?_⟩
    · rcases Nat.eq_zero_or_pos len with h0 | h0
      · subst h0; exact .inl rfl
      · right
        obtain ⟨_, hc⟩ := hX 0 h0
        have h2 := hc 0 _ (List.getElem?_eq_getElem (by rw [hk]; exact hpos))
        have := World.block_lt_of_cell? _ _ h2
        rw [block_of_add] at this
        exact ⟨this, by omega⟩
    · rw [List.map_map, List.getElem?_map] at hx
      cases hr : (List.range len)[i]? with
      | none => rw [hr] at hx; cases hx
      | some q =>
        obtain ⟨hq, hq2⟩ := List.getElem?_eq_some_iff.1 hr
        simp at hq hq2
        subst hq2
        rw [hr] at hx
        injection hx with hx
        subst hx
        exact (hX _ hq).2
    · obtain ⟨i, hir, rfl⟩ := List.mem_map.1 hx
      exact (hX i (List.mem_range.1 hir)).1

theorem open_sty (hv : Value.okWide Tryd.prog W r b0 33 v) (h : DataW.Trod enc Tryd.prog W 0 (fun _ => true) true 33 v d ps) : ∃ s : Sty, v = .agg s.cells := by
  obtain ⟨cs, rfl, hsz⟩ := okWide_struct Tryd.underlying33 hv
  obtain ⟨f, hf⟩ := h
  obtain ⟨s, hs⟩ := sty_of hf
  exact ⟨s, by rw [← Array.toList_inj.1 hs]; rfl⟩
end
end Go.Proofs.YtejcfhfmdijimaaDoor

/- Arguments that are lists of characters, and of styles, opened to values. No walk. -/
namespace Go.Proofs.YtejcfhfmdijimaaDoor
open Go.ChangeShapes Go.WideShapes Go.ChangeAt Go.RowKit Go.Deep
open Wh

set_option maxRecDepth 100000
section
variable {H : Type} {enc : TypeId × Value → H} {W : World} {r : Reach} {b0 : Nat} {v : Value} {d : DataW H} {ps : List MemPlace} {fuel : Nat} {cs : List Value} {y : DataW H × List MemPlace}
theorem w32_of {a : Int} (h : (Lit.int .i32 a).wf = true) : -2147483648 ≤ a ∧ a ≤ 2147483647 := by
  simpa [Lit.wf, IntKind.min, IntKind.max, IntKind.signed, IntKind.bits] using h
theorem c32 : Tryd.prog.cellsOf 21 = 1 := by kernel_rfl
theorem cChr : Tryd.prog.cellsOf 38 = 5 := by kernel_rfl
theorem chr_of (h : DataW.trod enc Tryd.prog W 0 (fun _ => true) true fuel 38 cs = some y) : ∃ x : Cr, cs = (chA x).toList ∧ -2147483648 ≤ x.r ∧ x.r ≤ 2147483647 := by
  obtain ⟨xs, n, _, _, hl, hyl, hf⟩ := DataW.trod_struct Tryd.underlying38 h
  have hl5 : cs.length = 5 := hl.trans cChr
  have hy5 : xs.length = 5 := hyl
  match cs, hl5 with
  | [q0, q1, q2, q3, q4], _ =>
    obtain ⟨z0, g0, _, w0⟩ := DataW.trod_int Tryd.underlying21 ((hf 0 _ rfl).trans (List.getElem?_eq_getElem (by omega)))
    obtain ⟨z1, g1, _, _⟩ := DataW.trod_int Tryd.underlying3 ((hf 1 _ rfl).trans (List.getElem?_eq_getElem (by omega)))
    obtain ⟨z2, g2, _, _⟩ := DataW.trod_int Tryd.underlying3 ((hf 2 _ rfl).trans (List.getElem?_eq_getElem (by omega)))
    obtain ⟨z3, g3, _, _⟩ := DataW.trod_int Tryd.underlying3 ((hf 3 _ rfl).trans (List.getElem?_eq_getElem (by omega)))
    obtain ⟨z4, g4, _, _⟩ := DataW.trod_int Tryd.underlying5 ((hf 4 _ rfl).trans (List.getElem?_eq_getElem (by omega)))
    simp [c32] at g0
    simp [c3] at g1
    simp [c3] at g2
    simp [c3] at g3
    simp [c5] at g4
    subst g0 g1 g2 g3 g4
    exact ⟨⟨z0, z1, z2, z3, z4⟩, rfl, w32_of w0⟩
theorem open_chs (hv : Value.okWide Tryd.prog W r b0 22 v) (h : DataW.Trod enc Tryd.prog W 0 (fun _ => true) true 22 v d ps) : ∃ l : List Cr, RwC W v l ∧ ∀ c ∈ l, -2147483648 ≤ c.r ∧ c.r ≤ 2147483647 := by
  obtain ⟨a, len, cap, rfl⟩ := okWide_slice Tryd.underlying22 hv
  obtain ⟨f, hf⟩ := h
  obtain ⟨l, h1, h2⟩ := open_rowsP (fun c : Cr => (chA c).toList) (fun c => -2147483648 ≤ c.r ∧ c.r ≤ 2147483647) Tryd.underlying22 cChr (by omega) (fun _ => rfl) (fun n cs y hy => chr_of hy) hf
  exact ⟨l, RowN.mono h1 fun _ _ h => h.elim, h2⟩
theorem open_ss (hv : Value.okWide Tryd.prog W r b0 23 v) (h : DataW.Trod enc Tryd.prog W 0 (fun _ => true) true 23 v d ps) : ∃ l : List Sty, Ss W v l := by
  obtain ⟨a, len, cap, rfl⟩ := okWide_slice Tryd.underlying23 hv
  obtain ⟨f, hf⟩ := h
  obtain ⟨l, h1, h2⟩ := open_rowsP (fun s : Sty => s.cells.toList) (fun _ => True) Tryd.underlying23 c23 (by omega) (fun _ => rfl) (fun n cs y hy => (sty_of hy).imp fun s h => ⟨h, trivial⟩) hf
  exact ⟨l, RowN.mono h1 fun _ _ h => h.elim⟩
end
end Go.Proofs.YtejcfhfmdijimaaDoor

/- What the rows' list of package variables gives: the table of wide ranges lies in memory as the program's text lays it; and a world for the witness. -/
namespace Go.Proofs.YtejcfhfmdijimaaDoor
open Go.ChangeShapes Go.WideShapes Go.ChangeAt Go.RowKit

theorem gWides : Tryd.prog.globalNamed "stickful/class.wides" = some 0 := by kernel_rfl
theorem gWidesType : (Tryd.prog.globals[0]?).map (·.type) = some 85 := by kernel_rfl
theorem cWides : Tryd.prog.cellsOf 85 = 22 := by kernel_rfl
theorem cWide : Tryd.prog.cellsOf 84 = 2 := by kernel_rfl
theorem cI32 : Tryd.prog.cellsOf 21 = 1 := by kernel_rfl

/-- a range that reads as these numbers has them, cell for cell -/
theorem range_cells {H : Type} {enc : TypeId × Value → H} {W : World} {base : Nat} {sp : Nat → Bool} {held : Bool} {fuel : Nat} {ce : List Value} {p : List MemPlace} {a b : Int}
    (h : DataW.trod enc Tryd.prog W base sp held fuel 84 ce = some (.agg [.lit (.int .i32 a), .lit (.int .i32 b)], p)) :
    ce = [.int .i32 a, .int .i32 b] := by
  cases fuel with
  | zero => simp [DataW.trod] at h
  | succ fuel =>
    simp only [DataW.trod, Tryd.underlying84, cWide] at h
    split at h
    · rename_i hl
      match ce, hl, h with
      | [x0, x1], _, h =>
        obtain ⟨xs, hm, hx⟩ := Option.map_eq_some_iff.1 h
        simp only [List.mapM_cons, List.mapM_nil, Option.bind_eq_bind, Option.bind_eq_some_iff, Option.pure_def, Option.some.injEq] at hm
        obtain ⟨y0, h0, _, ⟨y1, h1, _, rfl, rfl⟩, rfl⟩ := hm
        simp only [cI32] at h0 h1
        obtain ⟨z0, e0, rfl, _⟩ := DataW.trod_int Tryd.underlying21 h0
        obtain ⟨z1, e1, rfl, _⟩ := DataW.trod_int Tryd.underlying21 h1
        simp at e0 e1 hx
        obtain ⟨⟨r0, r1⟩, _⟩ := hx
        subst e0 e1 r0 r1
        rfl
    · cases h

theorem drop_take {α : Type} (l : List α) (k : Nat) (a b : List α) (h1 : (l.drop (k * 2)).take 2 = a) (h2 : l.drop (k * 2 + 2) = b) : l.drop (k * 2) = a ++ b := by
  rw [← h1, ← h2, ← List.drop_drop, List.take_append_drop]

/-- WHAT THE ROW's LIST GIVES -/
theorem tab_of {W : World} (h : laidMetH Tryd.prog [("stickful/class.wides", Rows.laid_stickful_class_wides)] W) : Tab W := by
  have h2 : laidMet Tryd.prog [("stickful/class.wides", Rows.laid_stickful_class_wides)] W := h
  obtain ⟨ps, ⟨g, t, cs, fuel, p, q, hg, ht, hv, hd, _, _⟩, _⟩ := h2
  obtain rfl := Option.some.inj (gWides.symm.trans hg)
  obtain rfl := Option.some.inj (gWidesType.symm.trans ht)
  have hcs : cs = wcells := by
    obtain ⟨cl⟩ := cs
    cases fuel with
    | zero => simp [DataW.trod] at hd
    | succ fuel =>
      simp only [DataW.trod, Tryd.underlying85, cWides, cWide] at hd
      split at hd
      · rename_i hl
        have hl2 : cl.length = 22 := hl
        obtain ⟨xs, hm, hx⟩ := Option.map_eq_some_iff.1 hd
        have hxs : xs.map (·.1) = [.agg [.lit (.int .i32 4352), .lit (.int .i32 4447)], .agg [.lit (.int .i32 11904), .lit (.int .i32 12350)], .agg [.lit (.int .i32 12353), .lit (.int .i32 42191)], .agg [.lit (.int .i32 44032), .lit (.int .i32 55203)], .agg [.lit (.int .i32 63744), .lit (.int .i32 64255)], .agg [.lit (.int .i32 65072), .lit (.int .i32 65103)], .agg [.lit (.int .i32 65281), .lit (.int .i32 65376)], .agg [.lit (.int .i32 65504), .lit (.int .i32 65510)], .agg [.lit (.int .i32 127744), .lit (.int .i32 128591)], .agg [.lit (.int .i32 129280), .lit (.int .i32 129535)], .agg [.lit (.int .i32 131072), .lit (.int .i32 262141)]] := by
          have := congrArg Prod.fst hx
          simpa [Rows.laid_stickful_class_wides] using this
        have R : ∀ i (d : DataW Unit), i < 11 → (xs.map (·.1))[i]? = some d → ∃ p, DataW.trod (fun _ => ()) Tryd.prog W 0 (fun _ => true) false fuel 84 ((cl.drop (i * 2)).take 2) = some (d, p) := by
          intro i d hi hd2
          obtain ⟨b, hb, hf⟩ := Lib.mapM_at hm i i (by simp [hi])
          rw [List.getElem?_map, hb] at hd2
          simp at hd2
          subst hd2
          exact ⟨b.2, hf⟩
        obtain ⟨_, q0⟩ := R 0 _ (by omega) (by rw [hxs]; rfl)
        have t0 := range_cells q0
        obtain ⟨_, q1⟩ := R 1 _ (by omega) (by rw [hxs]; rfl)
        have t1 := range_cells q1
        obtain ⟨_, q2⟩ := R 2 _ (by omega) (by rw [hxs]; rfl)
        have t2 := range_cells q2
        obtain ⟨_, q3⟩ := R 3 _ (by omega) (by rw [hxs]; rfl)
        have t3 := range_cells q3
        obtain ⟨_, q4⟩ := R 4 _ (by omega) (by rw [hxs]; rfl)
        have t4 := range_cells q4
        obtain ⟨_, q5⟩ := R 5 _ (by omega) (by rw [hxs]; rfl)
        have t5 := range_cells q5
        obtain ⟨_, q6⟩ := R 6 _ (by omega) (by rw [hxs]; rfl)
        have t6 := range_cells q6
        obtain ⟨_, q7⟩ := R 7 _ (by omega) (by rw [hxs]; rfl)
        have t7 := range_cells q7
        obtain ⟨_, q8⟩ := R 8 _ (by omega) (by rw [hxs]; rfl)
        have t8 := range_cells q8
        obtain ⟨_, q9⟩ := R 9 _ (by omega) (by rw [hxs]; rfl)
        have t9 := range_cells q9
        obtain ⟨_, q10⟩ := R 10 _ (by omega) (by rw [hxs]; rfl)
        have t10 := range_cells q10
        have e11 : cl.drop (10 * 2 + 2) = [] := List.drop_eq_nil_of_le (by omega)
        have e10 := drop_take cl 10 _ _ t10 e11
        have e9 := drop_take cl 9 _ _ t9 e10
        have e8 := drop_take cl 8 _ _ t8 e9
        have e7 := drop_take cl 7 _ _ t7 e8
        have e6 := drop_take cl 6 _ _ t6 e7
        have e5 := drop_take cl 5 _ _ t5 e6
        have e4 := drop_take cl 4 _ _ t4 e5
        have e3 := drop_take cl 3 _ _ t3 e4
        have e2 := drop_take cl 2 _ _ t2 e3
        have e1 := drop_take cl 1 _ _ t1 e2
        have e0 := drop_take cl 0 _ _ t0 e1
        have e0' : cl = _ := e0
        rw [e0']
        rfl
      · cases hd
  rw [hcs] at hv
  simp only [World.var?, gWides, Option.bind_some] at hv
  split at hv
  · rename_i c t' fr hb
    cases hv
    exact ⟨t', fr, hb⟩
  · cases hv

/-- a world for the witness: the settled one, the table holding what its initialiser lays -/
noncomputable def laidWorld (os : Os) : World :=
  { World.holding Tryd.prog os ⟨#[], #[], []⟩ with heap := (World.holding Tryd.prog os ⟨#[], #[], []⟩).heap.modify 0 fun
      | .cells _ t frozen => .cells wcells t frozen
      | o => o }
end Go.Proofs.YtejcfhfmdijimaaDoor
