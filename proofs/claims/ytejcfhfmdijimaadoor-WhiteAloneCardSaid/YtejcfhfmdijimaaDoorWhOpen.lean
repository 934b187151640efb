/- Arguments that are lists of characters, and of styles, opened to values. No walk. -/
import Derived.Test.YtejcfhfmdijimaaDoorYOpen
import Derived.Test.YtejcfhfmdijimaaDoorWhRow
import Derived.Test.YtejcfhfmdijimaaDoorWhE
namespace Go.Proofs.YtejcfhfmdijimaaDoor
open Go.ChangeShapes Go.WideShapes Go.ChangeAt Go.RowKit Go.Deep
open Wh

set_option maxRecDepth 100000
section
variable {H : Type} {enc : TypeId × Value → H} {W : World} {r : Reach} {b0 : Nat} {v : Value} {d : DataW H} {ps : List MemPlace} {fuel : Nat} {cs : List Value} {y : DataW H × List MemPlace}
theorem w32_of {a : Int} (h : (Lit.int .i32 a).wf = true) : -2147483648 ≤ a ∧ a ≤ 2147483647 := by
  simpa [Lit.wf, IntKind.min, IntKind.max, IntKind.signed, IntKind.bits] using h
theorem c32 : Tryd.prog.cellsOf 21 = 1 := by kernel_rfl
theorem cChr : Tryd.prog.cellsOf 38 = 5 := by kernel_rfl
theorem chr_of (h : DataW.trod enc Tryd.prog W 0 (fun _ => true) true fuel 38 cs = some y) : ∃ x : Cr, cs = (chA x).toList ∧ -2147483648 ≤ x.r ∧ x.r ≤ 2147483647 := by
  obtain ⟨xs, n, _, _, hl, hyl, hf⟩ := DataW.trod_struct Tryd.underlying38 h
  have hl5 : cs.length = 5 := hl.trans cChr
  have hy5 : xs.length = 5 := hyl
  match cs, hl5 with
  | [q0, q1, q2, q3, q4], _ =>
    obtain ⟨z0, g0, _, w0⟩ := DataW.trod_int Tryd.underlying21 ((hf 0 _ rfl).trans (List.getElem?_eq_getElem (by omega)))
    obtain ⟨z1, g1, _, _⟩ := DataW.trod_int Tryd.underlying3 ((hf 1 _ rfl).trans (List.getElem?_eq_getElem (by omega)))
    obtain ⟨z2, g2, _, _⟩ := DataW.trod_int Tryd.underlying3 ((hf 2 _ rfl).trans (List.getElem?_eq_getElem (by omega)))
    obtain ⟨z3, g3, _, _⟩ := DataW.trod_int Tryd.underlying3 ((hf 3 _ rfl).trans (List.getElem?_eq_getElem (by omega)))
    obtain ⟨z4, g4, _, _⟩ := DataW.trod_int Tryd.underlying5 ((hf 4 _ rfl).trans (List.getElem?_eq_getElem (by omega)))
    simp [c32] at g0
    simp [c3] at g1
    simp [c3] at g2
    simp [c3] at g3
    simp [c5] at g4
    subst g0 g1 g2 g3 g4
    exact ⟨⟨z0, z1, z2, z3, z4⟩, rfl, w32_of w0⟩
theorem open_chs (hv : Value.okWide Tryd.prog W r b0 22 v) (h : DataW.Trod enc Tryd.prog W 0 (fun _ => true) true 22 v d ps) : ∃ l : List Cr, RwC W v l ∧ ∀ c ∈ l, -2147483648 ≤ c.r ∧ c.r ≤ 2147483647 := by
  obtain ⟨a, len, cap, rfl⟩ := okWide_slice Tryd.underlying22 hv
  obtain ⟨f, hf⟩ := h
  obtain ⟨l, h1, h2⟩ := open_rowsP (fun c : Cr => (chA c).toList) (fun c => -2147483648 ≤ c.r ∧ c.r ≤ 2147483647) Tryd.underlying22 cChr (by omega) (fun _ => rfl) (fun n cs y hy => chr_of hy) hf
  exact ⟨l, RowN.mono h1 fun _ _ h => h.elim, h2⟩
theorem open_ss (hv : Value.okWide Tryd.prog W r b0 23 v) (h : DataW.Trod enc Tryd.prog W 0 (fun _ => true) true 23 v d ps) : ∃ l : List Sty, Ss W v l := by
  obtain ⟨a, len, cap, rfl⟩ := okWide_slice Tryd.underlying23 hv
  obtain ⟨f, hf⟩ := h
  obtain ⟨l, h1, h2⟩ := open_rowsP (fun s : Sty => s.cells.toList) (fun _ => True) Tryd.underlying23 c23 (by omega) (fun _ => rfl) (fun n cs y hy => (sty_of hy).imp fun s h => ⟨h, trivial⟩) hf
  exact ⟨l, RowN.mono h1 fun _ _ h => h.elim⟩
end
end Go.Proofs.YtejcfhfmdijimaaDoor
