/- Arguments that are cells, lists of them, roles, numbers, opened to values. No walk. -/
import Derived.Test.YtddihpiheopleaaOpenG
import Derived.Test.YtddihpiheopleaaOpen
import Derived.Test.YtddihpiheopleaaTa1
namespace Go.Proofs.Ytddihpiheopleaa.Ta
open Go.ChangeShapes Go.WideShapes Go.ChangeAt Go.RowKit Go.Deep
open Ce

theorem own : ownKnob Try.prog.godebug = none := by kernel_rfl
theorem laidOut : laidOutB Try.prog = true := by kernel_rfl
theorem w64_of {a : Int} (h : (Lit.int .i64 a).wf = true) : W64 a := by
  simpa [W64, Lit.wf, IntKind.min, IntKind.max, IntKind.signed, IntKind.bits] using h
theorem w8_of {a : Int} (h : (Lit.int .u8 a).wf = true) : ∃ M : Nat, a = (M : Int) ∧ M < 256 := by
  have h1 : 0 ≤ a ∧ a ≤ 255 := by simpa [Lit.wf, IntKind.min, IntKind.max, IntKind.signed, IntKind.bits] using h
  exact ⟨a.toNat, by omega, by omega⟩
theorem w8_all {zs : List Int} (h : ∀ z ∈ zs, (Lit.int .u8 z).wf = true) : ∀ z ∈ zs, 0 ≤ z ∧ z ≤ 255 := fun z hz => by
  simpa [Lit.wf, IntKind.min, IntKind.max, IntKind.signed, IntKind.bits] using h z hz

set_option maxRecDepth 100000
theorem c8 : Try.prog.cellsOf 5 = 1 := by kernel_rfl
theorem ci : Try.prog.cellsOf 3 = 1 := by kernel_rfl
theorem c64 : Try.prog.cellsOf 2 = 1 := by kernel_rfl
theorem cb : Try.prog.cellsOf 4 = 1 := by kernel_rfl
theorem cCl : Try.prog.cellsOf 35 = 6 := by kernel_rfl
section
variable {H : Type} {enc : TypeId × Value → H} {W : World} {r : Reach} {b0 : Nat} {v : Value} {d : DataW H} {ps : List MemPlace} {fuel : Nat} {cs : List Value} {y : DataW H × List MemPlace}
/-- a cell whose numbers fit -/
def ClOk (c : Cl) : Prop := (0 ≤ c.k ∧ c.k ≤ 255) ∧ W64 c.node ∧ W64 c.ch ∧ W64 c.adv
theorem cl_of (h : DataW.trod enc Try.prog W 0 (fun _ => true) true fuel 35 cs = some y) : ∃ x : Cl, cs = (clA x).toList ∧ ClOk x := by
  obtain ⟨xs, n, _, _, hl, hyl, hf⟩ := DataW.trod_struct Try.underlying35 h
  have hl6 : cs.length = 6 := hl.trans cCl
  have hy6 : xs.length = 6 := hyl
  match cs, hl6 with
  | [q0, q1, q2, q3, q4, q5], _ =>
    obtain ⟨z0, g0, _, w0⟩ := DataW.trod_int Try.underlying5 ((hf 0 _ rfl).trans (List.getElem?_eq_getElem (by omega)))
    obtain ⟨z1, g1, _, w1⟩ := DataW.trod_int Try.underlying3 ((hf 1 _ rfl).trans (List.getElem?_eq_getElem (by omega)))
    obtain ⟨z2, g2, _, w2⟩ := DataW.trod_int Try.underlying3 ((hf 2 _ rfl).trans (List.getElem?_eq_getElem (by omega)))
    obtain ⟨z3, g3, _, w3⟩ := DataW.trod_int Try.underlying2 ((hf 3 _ rfl).trans (List.getElem?_eq_getElem (by omega)))
    obtain ⟨z4, g4, _⟩ := DataW.trod_bool Try.underlying4 ((hf 4 _ rfl).trans (List.getElem?_eq_getElem (by omega)))
    obtain ⟨z5, g5, _⟩ := DataW.trod_bool Try.underlying4 ((hf 5 _ rfl).trans (List.getElem?_eq_getElem (by omega)))
    simp [c8] at g0
    simp [ci] at g1
    simp [ci] at g2
    simp [c64] at g3
    simp [cb] at g4
    simp [cb] at g5
    subst g0 g1 g2 g3 g4 g5
    refine ⟨⟨z0, z1, z2, z3, z4, z5⟩, rfl, ?_, w64_of w1, w64_of w2, w64_of w3⟩
    simpa [Lit.wf, IntKind.min, IntKind.max, IntKind.signed, IntKind.bits] using w0
theorem open_cls (hv : Value.okWide Try.prog W r b0 22 v) (h : DataW.Trod enc Try.prog W 0 (fun _ => true) true 22 v d ps) : ∃ l : List Cl, RwCl W v l ∧ CapV v ∧ ∀ c ∈ l, ClOk c := by
  obtain ⟨a, len, cap, rfl⟩ := okWide_slice Try.underlying22 hv
  obtain ⟨f, hf⟩ := h
  obtain ⟨l, h1, h2⟩ := open_rowsP (fun c : Cl => (clA c).toList) ClOk Try.underlying22 cCl (by omega) (fun _ => rfl) (fun n cs y hy => cl_of hy) hf
  exact ⟨l, RowN.mono h1 fun _ _ h => h.elim, open_cap Try.underlying22 hf, h2⟩
end
end Go.Proofs.Ytddihpiheopleaa.Ta
