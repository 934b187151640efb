/- What the rows' list of package variables gives: the table of wide ranges lies in memory as the program's text lays it; and a world for the witness. -/
import Derived.Test.YtejcfhfmdijimaaDoorWhOpen
import Derived.Test.YtejcfhfmdijimaaDoorRows
import Derived.Test.YtejcfhfmdijimaaDoorCards
import Derived.Test.YtejcfhfmdijimaaDoorTie
import Derived.Deep.DeepHandedRow
import Derived.Lib.LaidTab
import Derived.ChangeOld
namespace Go.Proofs.YtejcfhfmdijimaaDoor
open Go.ChangeShapes Go.WideShapes Go.ChangeAt Go.RowKit

theorem gWides : Tryd.prog.globalNamed "stickful/class.wides" = some 0 := by kernel_rfl
theorem gWidesType : (Tryd.prog.globals[0]?).map (·.type) = some 85 := by kernel_rfl
theorem cWides : Tryd.prog.cellsOf 85 = 22 := by kernel_rfl
theorem cWide : Tryd.prog.cellsOf 84 = 2 := by kernel_rfl
theorem cI32 : Tryd.prog.cellsOf 21 = 1 := by kernel_rfl

/-- a range that reads as these numbers has them, cell for cell -/
theorem range_cells {H : Type} {enc : TypeId × Value → H} {W : World} {base : Nat} {sp : Nat → Bool} {held : Bool} {fuel : Nat} {ce : List Value} {p : List MemPlace} {a b : Int}
    (h : DataW.trod enc Tryd.prog W base sp held fuel 84 ce = some (.agg [.lit (.int .i32 a), .lit (.int .i32 b)], p)) :
    ce = [.int .i32 a, .int .i32 b] := by
  cases fuel with
  | zero => simp [DataW.trod] at h
  | succ fuel =>
    simp only [DataW.trod, Tryd.underlying84, cWide] at h
    split at h
    · rename_i hl
      match ce, hl, h with
      | [x0, x1], _, h =>
        obtain ⟨xs, hm, hx⟩ := Option.map_eq_some_iff.1 h
        simp only [List.mapM_cons, List.mapM_nil, Option.bind_eq_bind, Option.bind_eq_some_iff, Option.pure_def, Option.some.injEq] at hm
        obtain ⟨y0, h0, _, ⟨y1, h1, _, rfl, rfl⟩, rfl⟩ := hm
        simp only [cI32] at h0 h1
        obtain ⟨z0, e0, rfl, _⟩ := DataW.trod_int Tryd.underlying21 h0
        obtain ⟨z1, e1, rfl, _⟩ := DataW.trod_int Tryd.underlying21 h1
        simp at e0 e1 hx
        obtain ⟨⟨r0, r1⟩, _⟩ := hx
        subst e0 e1 r0 r1
        rfl
    · cases h

theorem drop_take {α : Type} (l : List α) (k : Nat) (a b : List α) (h1 : (l.drop (k * 2)).take 2 = a) (h2 : l.drop (k * 2 + 2) = b) : l.drop (k * 2) = a ++ b := by
  rw [← h1, ← h2, ← List.drop_drop, List.take_append_drop]

/-- WHAT THE ROW's LIST GIVES -/
theorem tab_of {W : World} (h : laidMetH Tryd.prog [("stickful/class.wides", Rows.laid_stickful_class_wides)] W) : Tab W := by
  have h2 : laidMet Tryd.prog [("stickful/class.wides", Rows.laid_stickful_class_wides)] W := h
  obtain ⟨ps, ⟨g, t, cs, fuel, p, q, hg, ht, hv, hd, _, _⟩, _⟩ := h2
  obtain rfl := Option.some.inj (gWides.symm.trans hg)
  obtain rfl := Option.some.inj (gWidesType.symm.trans ht)
  have hcs : cs = wcells := by
    obtain ⟨cl⟩ := cs
    cases fuel with
    | zero => simp [DataW.trod] at hd
    | succ fuel =>
      simp only [DataW.trod, Tryd.underlying85, cWides, cWide] at hd
      split at hd
      · rename_i hl
        have hl2 : cl.length = 22 := hl
        obtain ⟨xs, hm, hx⟩ := Option.map_eq_some_iff.1 hd
        have hxs : xs.map (·.1) = [.agg [.lit (.int .i32 4352), .lit (.int .i32 4447)], .agg [.lit (.int .i32 11904), .lit (.int .i32 12350)], .agg [.lit (.int .i32 12353), .lit (.int .i32 42191)], .agg [.lit (.int .i32 44032), .lit (.int .i32 55203)], .agg [.lit (.int .i32 63744), .lit (.int .i32 64255)], .agg [.lit (.int .i32 65072), .lit (.int .i32 65103)], .agg [.lit (.int .i32 65281), .lit (.int .i32 65376)], .agg [.lit (.int .i32 65504), .lit (.int .i32 65510)], .agg [.lit (.int .i32 127744), .lit (.int .i32 128591)], .agg [.lit (.int .i32 129280), .lit (.int .i32 129535)], .agg [.lit (.int .i32 131072), .lit (.int .i32 262141)]] := by
          have := congrArg Prod.fst hx
          simpa [Rows.laid_stickful_class_wides] using this
        have R : ∀ i (d : DataW Unit), i < 11 → (xs.map (·.1))[i]? = some d → ∃ p, DataW.trod (fun _ => ()) Tryd.prog W 0 (fun _ => true) false fuel 84 ((cl.drop (i * 2)).take 2) = some (d, p) := by
          intro i d hi hd2
          obtain ⟨b, hb, hf⟩ := Lib.mapM_at hm i i (by simp [hi])
          rw [List.getElem?_map, hb] at hd2
          simp at hd2
          subst hd2
          exact ⟨b.2, hf⟩
        obtain ⟨_, q0⟩ := R 0 _ (by omega) (by rw [hxs]; rfl)
        have t0 := range_cells q0
        obtain ⟨_, q1⟩ := R 1 _ (by omega) (by rw [hxs]; rfl)
        have t1 := range_cells q1
        obtain ⟨_, q2⟩ := R 2 _ (by omega) (by rw [hxs]; rfl)
        have t2 := range_cells q2
        obtain ⟨_, q3⟩ := R 3 _ (by omega) (by rw [hxs]; rfl)
        have t3 := range_cells q3
        obtain ⟨_, q4⟩ := R 4 _ (by omega) (by rw [hxs]; rfl)
        have t4 := range_cells q4
        obtain ⟨_, q5⟩ := R 5 _ (by omega) (by rw [hxs]; rfl)
        have t5 := range_cells q5
        obtain ⟨_, q6⟩ := R 6 _ (by omega) (by rw [hxs]; rfl)
        have t6 := range_cells q6
        obtain ⟨_, q7⟩ := R 7 _ (by omega) (by rw [hxs]; rfl)
        have t7 := range_cells q7
        obtain ⟨_, q8⟩ := R 8 _ (by omega) (by rw [hxs]; rfl)
        have t8 := range_cells q8
        obtain ⟨_, q9⟩ := R 9 _ (by omega) (by rw [hxs]; rfl)
        have t9 := range_cells q9
        obtain ⟨_, q10⟩ := R 10 _ (by omega) (by rw [hxs]; rfl)
        have t10 := range_cells q10
        have e11 : cl.drop (10 * 2 + 2) = [] := List.drop_eq_nil_of_le (by omega)
        have e10 := drop_take cl 10 _ _ t10 e11
        have e9 := drop_take cl 9 _ _ t9 e10
        have e8 := drop_take cl 8 _ _ t8 e9
        have e7 := drop_take cl 7 _ _ t7 e8
        have e6 := drop_take cl 6 _ _ t6 e7
        have e5 := drop_take cl 5 _ _ t5 e6
        have e4 := drop_take cl 4 _ _ t4 e5
        have e3 := drop_take cl 3 _ _ t3 e4
        have e2 := drop_take cl 2 _ _ t2 e3
        have e1 := drop_take cl 1 _ _ t1 e2
        have e0 := drop_take cl 0 _ _ t0 e1
        have e0' : cl = _ := e0
        rw [e0']
        rfl
      · cases hd
  rw [hcs] at hv
  simp only [World.var?, gWides, Option.bind_some] at hv
  split at hv
  · rename_i c t' fr hb
    cases hv
    exact ⟨t', fr, hb⟩
  · cases hv

/-- a world for the witness: the settled one, the table holding what its initialiser lays -/
noncomputable def laidWorld (os : Os) : World :=
  { World.holding Tryd.prog os ⟨#[], #[], []⟩ with heap := (World.holding Tryd.prog os ⟨#[], #[], []⟩).heap.modify 0 fun
      | .cells _ t frozen => .cells wcells t frozen
      | o => o }
end Go.Proofs.YtejcfhfmdijimaaDoor
