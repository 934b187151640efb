/- What the rows' list of package variables gives: the table lies in memory as the program's text lays it; and a world for the witness. -/
import Derived.Test.YtgnalnppjhgmjaaDoorUP1
import Derived.Test.YtgnalnppjhgmjaaDoorCards
import Derived.Test.YtgnalnppjhgmjaaDoorTie
import Derived.WalkKit
import Derived.ProofKit
import Derived.OpenShut
import Derived.Deep.DeepHandedRow
import Derived.Lib.LaidTab
namespace Go.Proofs.YtgnalnppjhgmjaaDoor
open Go.ChangeShapes Go.WideShapes Go.ChangeAt Go.RowKit

theorem gForms : Tryd.prog.globalNamed "stickful/utf.forms" = some 0 := by kernel_rfl
theorem gFormsType : (Tryd.prog.globals[0]?).map (·.type) = some 56 := by kernel_rfl
theorem cForms : Tryd.prog.cellsOf 56 = 54 := by kernel_rfl
theorem cForm : Tryd.prog.cellsOf 51 = 6 := by kernel_rfl
theorem cByte : Tryd.prog.cellsOf 5 = 1 := by kernel_rfl
theorem cInt : Tryd.prog.cellsOf 3 = 1 := by kernel_rfl

/-- a form that reads as these numbers has them, cell for cell -/
theorem form_cells {H : Type} {enc : TypeId × Value → H} {W : World} {base : Nat} {sp : Nat → Bool} {held : Bool} {fuel : Nat} {ce : List Value} {p : List MemPlace} {a b c d e n : Int}
    (h : DataW.trod enc Tryd.prog W base sp held fuel 51 ce = some (.agg [.lit (.int .u8 a), .lit (.int .u8 b), .lit (.int .u8 c), .lit (.int .u8 d), .lit (.int .u8 e), .lit (.int .i64 n)], p)) :
    ce = [.int .u8 a, .int .u8 b, .int .u8 c, .int .u8 d, .int .u8 e, .int .i64 n] := by
  cases fuel with
  | zero => simp [DataW.trod] at h
  | succ fuel =>
    simp only [DataW.trod, Tryd.underlying51, cForm] at h
    split at h
    · rename_i hl
      match ce, hl, h with
      | [x0, x1, x2, x3, x4, x5], _, h =>
        obtain ⟨xs, hm, hx⟩ := Option.map_eq_some_iff.1 h
        simp only [List.mapM_cons, List.mapM_nil, Option.bind_eq_bind, Option.bind_eq_some_iff, Option.pure_def, Option.some.injEq] at hm
        obtain ⟨y0, h0, _, ⟨y1, h1, _, ⟨y2, h2, _, ⟨y3, h3, _, ⟨y4, h4, _, ⟨y5, h5, _, rfl, rfl⟩, rfl⟩, rfl⟩, rfl⟩, rfl⟩, rfl⟩ := hm
        simp only [cByte, cInt] at h0 h1 h2 h3 h4 h5
        obtain ⟨z0, e0, rfl, _⟩ := DataW.trod_int Tryd.underlying5 h0
        obtain ⟨z1, e1, rfl, _⟩ := DataW.trod_int Tryd.underlying5 h1
        obtain ⟨z2, e2, rfl, _⟩ := DataW.trod_int Tryd.underlying5 h2
        obtain ⟨z3, e3, rfl, _⟩ := DataW.trod_int Tryd.underlying5 h3
        obtain ⟨z4, e4, rfl, _⟩ := DataW.trod_int Tryd.underlying5 h4
        obtain ⟨z5, e5, rfl, _⟩ := DataW.trod_int Tryd.underlying3 h5
        simp at e0 e1 e2 e3 e4 e5 hx
        obtain ⟨⟨r0, r1, r2, r3, r4, r5⟩, _⟩ := hx
        subst e0 e1 e2 e3 e4 e5 r0 r1 r2 r3 r4 r5
        rfl
    · cases h

theorem drop_take {α : Type} (l : List α) (k : Nat) (a b : List α) (h1 : (l.drop (k * 6)).take 6 = a) (h2 : l.drop (k * 6 + 6) = b) : l.drop (k * 6) = a ++ b := by
  rw [← h1, ← h2, ← List.drop_drop, List.take_append_drop]

/-- WHAT THE ROW's LIST GIVES -/
theorem tab_of {W : World} (h : laidMetH Tryd.prog [("stickful/utf.forms", Rows.laid_stickful_utf_forms)] W) : Tab W := by
  have h2 : laidMet Tryd.prog [("stickful/utf.forms", Rows.laid_stickful_utf_forms)] W := h
  obtain ⟨ps, ⟨g, t, cs, fuel, p, q, hg, ht, hv, hd, _, _⟩, _⟩ := h2
  obtain rfl := Option.some.inj (gForms.symm.trans hg)
  obtain rfl := Option.some.inj (gFormsType.symm.trans ht)
  have hcs : cs = tabCells := by
    obtain ⟨cl⟩ := cs
    cases fuel with
    | zero => simp [DataW.trod] at hd
    | succ fuel =>
      simp only [DataW.trod, Tryd.underlying56, cForms, cForm] at hd
      split at hd
      · rename_i hl
        have hl2 : cl.length = 54 := hl
        obtain ⟨xs, hm, hx⟩ := Option.map_eq_some_iff.1 hd
        have hxs : xs.map (·.1) = [.agg [.lit (.int .u8 0), .lit (.int .u8 127), .lit (.int .u8 0), .lit (.int .u8 0), .lit (.int .u8 0), .lit (.int .i64 1)], .agg [.lit (.int .u8 194), .lit (.int .u8 223), .lit (.int .u8 128), .lit (.int .u8 191), .lit (.int .u8 192), .lit (.int .i64 2)], .agg [.lit (.int .u8 224), .lit (.int .u8 224), .lit (.int .u8 160), .lit (.int .u8 191), .lit (.int .u8 224), .lit (.int .i64 3)], .agg [.lit (.int .u8 225), .lit (.int .u8 236), .lit (.int .u8 128), .lit (.int .u8 191), .lit (.int .u8 224), .lit (.int .i64 3)], .agg [.lit (.int .u8 237), .lit (.int .u8 237), .lit (.int .u8 128), .lit (.int .u8 159), .lit (.int .u8 224), .lit (.int .i64 3)], .agg [.lit (.int .u8 238), .lit (.int .u8 239), .lit (.int .u8 128), .lit (.int .u8 191), .lit (.int .u8 224), .lit (.int .i64 3)], .agg [.lit (.int .u8 240), .lit (.int .u8 240), .lit (.int .u8 144), .lit (.int .u8 191), .lit (.int .u8 240), .lit (.int .i64 4)], .agg [.lit (.int .u8 241), .lit (.int .u8 243), .lit (.int .u8 128), .lit (.int .u8 191), .lit (.int .u8 240), .lit (.int .i64 4)], .agg [.lit (.int .u8 244), .lit (.int .u8 244), .lit (.int .u8 128), .lit (.int .u8 143), .lit (.int .u8 240), .lit (.int .i64 4)]] := by
          have := congrArg Prod.fst hx
          simpa [Rows.laid_stickful_utf_forms] using this
        have R : ∀ i (d : DataW Unit), i < 9 → (xs.map (·.1))[i]? = some d → ∃ p, DataW.trod (fun _ => ()) Tryd.prog W 0 (fun _ => true) false fuel 51 ((cl.drop (i * 6)).take 6) = some (d, p) := by
          intro i d hi hd2
          obtain ⟨b, hb, hf⟩ := Lib.mapM_at hm i i (by simp [hi])
          rw [List.getElem?_map, hb] at hd2
          simp at hd2
          subst hd2
          exact ⟨b.2, hf⟩
        obtain ⟨_, q0⟩ := R 0 _ (by omega) (by rw [hxs]; rfl)
        have t0 := form_cells q0
        obtain ⟨_, q1⟩ := R 1 _ (by omega) (by rw [hxs]; rfl)
        have t1 := form_cells q1
        obtain ⟨_, q2⟩ := R 2 _ (by omega) (by rw [hxs]; rfl)
        have t2 := form_cells q2
        obtain ⟨_, q3⟩ := R 3 _ (by omega) (by rw [hxs]; rfl)
        have t3 := form_cells q3
        obtain ⟨_, q4⟩ := R 4 _ (by omega) (by rw [hxs]; rfl)
        have t4 := form_cells q4
        obtain ⟨_, q5⟩ := R 5 _ (by omega) (by rw [hxs]; rfl)
        have t5 := form_cells q5
        obtain ⟨_, q6⟩ := R 6 _ (by omega) (by rw [hxs]; rfl)
        have t6 := form_cells q6
        obtain ⟨_, q7⟩ := R 7 _ (by omega) (by rw [hxs]; rfl)
        have t7 := form_cells q7
        obtain ⟨_, q8⟩ := R 8 _ (by omega) (by rw [hxs]; rfl)
        have t8 := form_cells q8
        have e9 : cl.drop (8 * 6 + 6) = [] := List.drop_eq_nil_of_le (by omega)
        have e8 := drop_take cl 8 _ _ t8 e9
        have e7 := drop_take cl 7 _ _ t7 e8
        have e6 := drop_take cl 6 _ _ t6 e7
        have e5 := drop_take cl 5 _ _ t5 e6
        have e4 := drop_take cl 4 _ _ t4 e5
        have e3 := drop_take cl 3 _ _ t3 e4
        have e2 := drop_take cl 2 _ _ t2 e3
        have e1 := drop_take cl 1 _ _ t1 e2
        have e0 := drop_take cl 0 _ _ t0 e1
        have e0' : cl = _ := e0
        rw [e0']
        rfl
      · cases hd
  rw [hcs] at hv
  simp only [World.var?, gForms, Option.bind_some] at hv
  split at hv
  · rename_i c t' fr hb
    cases hv
    exact ⟨t', fr, hb⟩
  · cases hv

/-- a world for the witness: the settled one, the table holding what its initialiser lays -/
noncomputable def laidWorld (os : Os) : World :=
  { World.holding Tryd.prog os ⟨#[], #[], []⟩ with heap := (World.holding Tryd.prog os ⟨#[], #[], []⟩).heap.modify 0 fun
      | .cells _ t frozen => .cells tabCells t frozen
      | o => o }
end Go.Proofs.YtgnalnppjhgmjaaDoor
