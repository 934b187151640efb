/- An argument that is a list of chance's laws: characters, styles and numbers, opened to values. No walk. -/
import Derived.Test.YtnoenccpbbkdeaaGF
import Derived.Test.YtnoenccpbbkdeaaGE
import Derived.Test.YtnoenccpbbkdeaaCh3
namespace Go.Proofs.Ytnoenccpbbkdeaa
open Go.ChangeShapes Go.WideShapes Go.ChangeAt Go.RowKit Go.Deep
open Wh (Cr)

set_option maxRecDepth 100000
section
variable {H : Type} {enc : TypeId × Value → H} {W : World} {r : Reach} {b0 : Nat} {v : Value} {d : DataW H} {ps : List MemPlace} {fuel : Nat} {cs : List Value} {y : DataW H × List MemPlace}
theorem c32h : Try.prog.cellsOf 21 = 1 := by kernel_rfl
theorem cChh : Try.prog.cellsOf 39 = 5 := by kernel_rfl
theorem cLc : Try.prog.cellsOf 22 = 1 := by kernel_rfl
theorem cLs : Try.prog.cellsOf 23 = 1 := by kernel_rfl
theorem cLi : Try.prog.cellsOf 24 = 1 := by kernel_rfl
theorem chr_ofh (h : DataW.trod enc Try.prog W 0 (fun _ => true) true fuel 39 cs = some y) : ∃ x : Cr, cs = (chA x).toList := by
  obtain ⟨xs, n, _, _, hl, hyl, hf⟩ := DataW.trod_struct Try.underlying39 h
  have hl5 : cs.length = 5 := hl.trans cChh
  have hy5 : xs.length = 5 := hyl
  match cs, hl5 with
  | [q0, q1, q2, q3, q4], _ =>
    obtain ⟨z0, g0, _, w0⟩ := DataW.trod_int Try.underlying21 ((hf 0 _ rfl).trans (List.getElem?_eq_getElem (by omega)))
    obtain ⟨z1, g1, _, _⟩ := DataW.trod_int Try.underlying3 ((hf 1 _ rfl).trans (List.getElem?_eq_getElem (by omega)))
    obtain ⟨z2, g2, _, _⟩ := DataW.trod_int Try.underlying3 ((hf 2 _ rfl).trans (List.getElem?_eq_getElem (by omega)))
    obtain ⟨z3, g3, _, _⟩ := DataW.trod_int Try.underlying3 ((hf 3 _ rfl).trans (List.getElem?_eq_getElem (by omega)))
    obtain ⟨z4, g4, _, _⟩ := DataW.trod_int Try.underlying5 ((hf 4 _ rfl).trans (List.getElem?_eq_getElem (by omega)))
    simp [c32h] at g0
    simp [c3] at g1
    simp [c3] at g2
    simp [c3] at g3
    simp [c5] at g4
    subst g0 g1 g2 g3 g4
    exact ⟨⟨z0, z1, z2, z3, z4⟩, rfl⟩
theorem chs_ofh (h : DataW.trod enc Try.prog W 0 (fun _ => true) true fuel 22 [v] = some y) : ∃ l : List Cr, RwC W v l := by
  obtain ⟨l, h1, _⟩ := open_rowsP (fun c : Cr => (chA c).toList) (fun _ => True) Try.underlying22 cChh (by omega) (fun _ => rfl) (fun n cs y hy => (chr_ofh hy).imp fun _ h => ⟨h, trivial⟩) h
  exact ⟨l, RowN.mono h1 fun _ _ h => h.elim⟩
theorem ss_ofh (h : DataW.trod enc Try.prog W 0 (fun _ => true) true fuel 23 [v] = some y) : ∃ l : List Sty, Ss W v l := by
  obtain ⟨l, h1, _⟩ := open_rowsP (fun s : Sty => s.cells.toList) (fun _ => True) Try.underlying23 c23 (by omega) (fun _ => rfl) (fun n cs y hy => (sty_of hy).imp fun s h => ⟨h, trivial⟩) h
  exact ⟨l, RowN.mono h1 fun _ _ h => h.elim⟩
theorem ri_ofh (h : DataW.trod enc Try.prog W 0 (fun _ => true) true fuel 24 [v] = some y) : ∃ l : List Int, RI W v l := by
  rcases open_ints Try.underlying24 Try.underlying3 c3 h with ⟨hcs, _⟩ | ⟨x, len, c, zs, hcs, _, hl, hm, hz, _, hcell, hwz⟩
  · injection hcs with hcs
    subst hcs
    exact ⟨[], .inl ⟨rfl, rfl⟩⟩
  · injection hcs with hcs
    subst hcs
    simp at hz
    refine ⟨zs.take len, Row.mono (row_of_cells (by simp [r64]; omega) (fun j u hj => ?_)) fun _ _ h => h.elim⟩
    unfold r64 at hj
    rw [List.map_take, List.getElem?_take] at hj
    split at hj
    · rename_i hjl
      have hjz : j < zs.length := by omega
      rw [List.getElem?_map, List.getElem?_eq_getElem hjz] at hj
      simp at hj
      subst hj
      rw [hcell j hjz]
      simp [List.getD, hjz]
    · cases hj
theorem open_list (hv : Value.okWide Try.prog W r b0 26 v) (h : DataW.Trod enc Try.prog W 0 (fun _ => true) true 26 v d ps) :
    ∃ (v1 v2 v3 : Value) (l : List Cr) (ss : List Sty) (rs : List Int), v = .agg #[v1, v2, v3] ∧ RwC W v1 l ∧ Ss W v2 ss ∧ RI W v3 rs := by
  obtain ⟨cs, rfl, hsz⟩ := okWide_struct Try.underlying26 hv
  obtain ⟨f, hf0⟩ := h
  obtain ⟨xs, n, _, _, hl, hyl, hf⟩ := DataW.trod_struct Try.underlying26 hf0
  have hl3 : cs.toList.length = 3 := (show cs.toList.length = Try.prog.cellsOf 26 by simpa using hsz).trans (by kernel_rfl)
  have hy3 : xs.length = 3 := hyl
  obtain ⟨q0, q1, q2, hq⟩ : ∃ q0 q1 q2, cs = #[q0, q1, q2] := by
    match hc : cs, hl3 with
    | ⟨[q0, q1, q2]⟩, _ => exact ⟨q0, q1, q2, rfl⟩
  subst hq
  have g0 : DataW.trod enc Try.prog W 0 (fun _ => true) true n 22 (([q0, q1, q2].drop 0).take (Try.prog.cellsOf 22)) = _ := (hf 0 _ rfl).trans (List.getElem?_eq_getElem (by omega))
  have g1 : DataW.trod enc Try.prog W 0 (fun _ => true) true n 23 (([q0, q1, q2].drop 1).take (Try.prog.cellsOf 23)) = _ := (hf 1 _ rfl).trans (List.getElem?_eq_getElem (by omega))
  have g2 : DataW.trod enc Try.prog W 0 (fun _ => true) true n 24 (([q0, q1, q2].drop 2).take (Try.prog.cellsOf 24)) = _ := (hf 2 _ rfl).trans (List.getElem?_eq_getElem (by omega))
  rw [cLc] at g0
  rw [cLs] at g1
  rw [cLi] at g2
  obtain ⟨l, k0⟩ := chs_ofh g0
  obtain ⟨ss, k1⟩ := ss_ofh g1
  obtain ⟨rs, k2⟩ := ri_ofh g2
  exact ⟨q0, q1, q2, l, ss, rs, rfl, k0, k1, k2⟩
end
end Go.Proofs.Ytnoenccpbbkdeaa
