/- What the rows' list of package variables gives: the tables of kinds lie in memory as the program's text lays them; and a world for the witness. -/
import Derived.Test.YtgpobhnonjdamaaDoorArGood
import Derived.Test.YtgpobhnonjdamaaDoorArOpen
import Derived.Test.YtgpobhnonjdamaaDoorRows
import Derived.Test.YtgpobhnonjdamaaDoorCards
import Derived.Test.YtgpobhnonjdamaaDoorTie
import Derived.Deep.DeepHandedRow
import Derived.Lib.LaidTab
import Derived.ChangeOld
namespace Go.Proofs.YtgpobhnonjdamaaDoor
open Go.ChangeShapes Go.WideShapes Go.ChangeAt Go.RowKit

theorem cT9 : Tryd.prog.cellsOf 79 = 9 := by kernel_rfl
theorem cBool : Tryd.prog.cellsOf 4 = 1 := by kernel_rfl
def bagg (bs : List Bool) : DataW Unit := .agg (bs.map fun b => .lit (.bool b))

theorem tab1 {W : World} {n : String} {g g' : Nat} {t : TypeId} {cs : Array Value} {fuel : Nat} {p : List MemPlace} {bs : List Bool} (h9 : bs.length = 9) (hn : Tryd.prog.globalNamed n = some g) (hT : (Tryd.prog.globals[g]?).map (·.type) = some 79)
    (hg : Tryd.prog.globalNamed n = some g') (ht : (Tryd.prog.globals[g']?).map (·.type) = some t) (hv : W.var? Tryd.prog n = some cs) (hd : DataW.trod (fun _ => ()) Tryd.prog W 0 (fun _ => true) false fuel t cs.toList = some (bagg bs, p)) : TabAt W g bs := by
  obtain rfl := Option.some.inj (hn.symm.trans hg)
  obtain rfl := Option.some.inj (hT.symm.trans ht)
  have hcs : cs = (bs.map Value.bool).toArray := by
    obtain ⟨cl⟩ := cs
    cases fuel with
    | zero => simp [DataW.trod] at hd
    | succ fuel =>
      simp only [DataW.trod, Tryd.underlying79, cT9, cBool] at hd
      split at hd
      · rename_i hl
        have hl2 : cl.length = 9 := hl
        obtain ⟨xs, hm, hx⟩ := Option.map_eq_some_iff.1 hd
        have hxs : xs.map (·.1) = bs.map fun b => (.lit (.bool b) : DataW Unit) := by
          have := congrArg Prod.fst hx
          simpa [bagg] using this
        have key : ∀ i, i < 9 → cl[i]? = (bs.map Value.bool)[i]? := by
          intro i hi
          obtain ⟨b, hb, hf⟩ := Lib.mapM_at hm i i (by simp [hi])
          obtain ⟨c, hc, hcx⟩ := DataW.trod_bool Tryd.underlying4 hf
          have h1 : (xs.map (·.1))[i]? = some b.1 := by rw [List.getElem?_map, hb]; rfl
          rw [hxs, hcx, List.getElem?_map] at h1
          have h2 : bs[i]? = some c := by
            cases hbi : bs[i]? with
            | none => rw [hbi] at h1; cases h1
            | some c' =>
              rw [hbi] at h1
              simp at h1
              rw [h1]
          rw [List.getElem?_map, h2]
          have h3 : ((cl.drop (i * 1)).take 1)[0]? = some (.bool c) := by rw [hc]; rfl
          simpa using h3
        have : cl = bs.map Value.bool := by
          apply List.ext_getElem?
          intro i
          by_cases hi : i < 9
          · exact key i hi
          · rw [List.getElem?_eq_none (by omega), List.getElem?_eq_none (by rw [List.length_map]; omega)]
        rw [this]
      · cases hd
  rw [hcs] at hv
  simp only [World.var?, hn, Option.bind_some] at hv
  split at hv
  · rename_i c t' fr hb
    cases hv
    exact ⟨t', fr, hb⟩
  · cases hv

/-- WHAT THE ROW's LIST GIVES -/
theorem tab_of {W : World} (h : laidMetH Tryd.prog Rows.arenaTellsRow.laid W) : Tab W := by
  have h2 : laidMet Tryd.prog Rows.arenaTellsRow.laid W := h
  obtain ⟨ps, ⟨g1, t1, c1, f1, p1, q1, hg1, ht1, hv1, hd1, ⟨g2, t2, c2, f2, p2, q2, hg2, ht2, hv2, hd2, ⟨g3, t3, c3, f3, p3, q3, hg3, ht3, hv3, hd3, ⟨g4, t4, c4, f4, p4, q4, hg4, ht4, hv4, hd4, ⟨g5, t5, c5, f5, p5, q5, hg5, ht5, hv5, hd5, ⟨g6, t6, c6, f6, p6, q6, hg6, ht6, hv6, hd6, ⟨g7, t7, c7, f7, p7, q7, hg7, ht7, hv7, hd7, _, _⟩, _⟩, _⟩, _⟩, _⟩, _⟩, _⟩, _⟩ := h2
  exact ⟨tab1 (bs := tLines) rfl (by kernel_rfl) (by kernel_rfl) hg2 ht2 hv2 hd2, tab1 (bs := tRuby) rfl (by kernel_rfl) (by kernel_rfl) hg7 ht7 hv7 hd7, tab1 (bs := tKids) rfl (by kernel_rfl) (by kernel_rfl) hg1 ht1 hv1 hd1,
    tab1 (bs := tText) rfl (by kernel_rfl) (by kernel_rfl) hg3 ht3 hv3 hd3, tab1 (bs := tEdges) rfl (by kernel_rfl) (by kernel_rfl) hg4 ht4 hv4 hd4, tab1 (bs := tSize) rfl (by kernel_rfl) (by kernel_rfl) hg5 ht5 hv5 hd5, tab1 (bs := tValign) rfl (by kernel_rfl) (by kernel_rfl) hg6 ht6 hv6 hd6⟩

/-- a world for the witness: the settled one, the tables holding what their initialisers lay -/
def putT (bs : List Bool) : Obj → Obj
  | .cells _ t frozen => .cells (bs.map Value.bool).toArray t frozen
  | o => o
noncomputable def laidWorld (os : Os) : World :=
  { World.holding Tryd.prog os ⟨#[], #[], []⟩ with heap := ((((((((World.holding Tryd.prog os ⟨#[], #[], []⟩).heap.modify 0 (putT tLines)).modify 1 (putT tRuby)).modify 2 (putT tKids)).modify 3 (putT tText)).modify 4 (putT tEdges)).modify 5 (putT tSize)).modify 6 (putT tValign)) }
end Go.Proofs.YtgpobhnonjdamaaDoor
