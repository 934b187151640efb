/- Arguments that are lists of nodes, opened to values. No walk. -/
import Derived.Test.YtgpobhnonjdamaaDoorYOpen
import Derived.Test.YtgpobhnonjdamaaDoorAr6
namespace Go.Proofs.YtgpobhnonjdamaaDoor
open Go.ChangeShapes Go.WideShapes Go.ChangeAt Go.RowKit Go.Deep

set_option maxRecDepth 100000
section
variable {H : Type} {enc : TypeId × Value → H} {W : World} {r : Reach} {b0 : Nat} {v : Value} {d : DataW H} {ps : List MemPlace} {fuel : Nat} {cs : List Value} {y : DataW H × List MemPlace}

theorem w8_of {a : Int} (h : (Lit.int .u8 a).wf = true) : 0 ≤ a ∧ a ≤ 255 := by
  simpa [Lit.wf, IntKind.min, IntKind.max, IntKind.signed, IntKind.bits] using h
theorem c9 : Tryd.prog.cellsOf 9 = 1 := by kernel_rfl
theorem c37 : Tryd.prog.cellsOf 37 = 22 := by kernel_rfl
theorem cV : Tryd.prog.cellsOf 35 = 2 := by kernel_rfl

theorem val_of (h : DataW.trod enc Tryd.prog W 0 (fun _ => true) true fuel 35 cs = some y) : ∃ k n : Int, cs = [.int .u8 k, .int .i64 n] ∧ 0 ≤ k := by
  obtain ⟨xs, n, _, _, hl, hyl, hf⟩ := DataW.trod_struct Tryd.underlying35 h
  have hl2 : cs.length = 2 := hl.trans cV
  have hy2 : xs.length = 2 := hyl
  match cs, hl2 with
  | [q0, q1], _ =>
    obtain ⟨z0, g0, _, w0⟩ := DataW.trod_int Tryd.underlying5 ((hf 0 _ rfl).trans (List.getElem?_eq_getElem (by omega)))
    obtain ⟨z1, g1, _, _⟩ := DataW.trod_int Tryd.underlying2 ((hf 1 _ rfl).trans (List.getElem?_eq_getElem (by omega)))
    simp [c5] at g0
    simp [c2] at g1
    subst g0 g1
    exact ⟨z0, z1, rfl, (w8_of w0).1⟩

theorem nod_of (h : DataW.trod enc Tryd.prog W 0 (fun _ => true) true fuel 37 cs = some y) : ∃ x : Nod, cs = x.cells.toList ∧ WfN x := by
  obtain ⟨xs, n, _, _, hl, hyl, hf⟩ := DataW.trod_struct Tryd.underlying37 h
  have hl22 : cs.length = 22 := hl.trans c37
  have hy : xs.length = 12 := hyl
  obtain ⟨d, hd, wd⟩ := dcl_of ((hf 3 _ rfl).trans (List.getElem?_eq_getElem (by omega)))
  obtain ⟨vk, vn, hval, wv⟩ := val_of ((hf 4 _ rfl).trans (List.getElem?_eq_getElem (by omega)))
  obtain ⟨z0, g0, _, w0⟩ := DataW.trod_int Tryd.underlying5 ((hf 0 _ rfl).trans (List.getElem?_eq_getElem (by omega)))
  obtain ⟨z1, g1, _, _⟩ := DataW.trod_int Tryd.underlying3 ((hf 1 _ rfl).trans (List.getElem?_eq_getElem (by omega)))
  obtain ⟨s2, g2, _, w2⟩ := DataW.trod_string Tryd.underlying9 ((hf 2 _ rfl).trans (List.getElem?_eq_getElem (by omega)))
  obtain ⟨z5, g5, _, _⟩ := DataW.trod_int Tryd.underlying2 ((hf 5 _ rfl).trans (List.getElem?_eq_getElem (by omega)))
  obtain ⟨z6, g6, _, _⟩ := DataW.trod_int Tryd.underlying2 ((hf 6 _ rfl).trans (List.getElem?_eq_getElem (by omega)))
  obtain ⟨z7, g7, _, _⟩ := DataW.trod_int Tryd.underlying2 ((hf 7 _ rfl).trans (List.getElem?_eq_getElem (by omega)))
  obtain ⟨z8, g8, _, _⟩ := DataW.trod_int Tryd.underlying2 ((hf 8 _ rfl).trans (List.getElem?_eq_getElem (by omega)))
  obtain ⟨z9, g9, _, _⟩ := DataW.trod_int Tryd.underlying2 ((hf 9 _ rfl).trans (List.getElem?_eq_getElem (by omega)))
  obtain ⟨z10, g10, _, _⟩ := DataW.trod_int Tryd.underlying3 ((hf 10 _ rfl).trans (List.getElem?_eq_getElem (by omega)))
  obtain ⟨z11, g11, _, _⟩ := DataW.trod_int Tryd.underlying3 ((hf 11 _ rfl).trans (List.getElem?_eq_getElem (by omega)))
  have e0 : (cs.drop 0).take 1 = [.int .u8 z0] := g0
  have e1 : (cs.drop 1).take 1 = [.int .i64 z1] := g1
  have e2 : (cs.drop 2).take 1 = [.string s2] := g2
  have e3 : (cs.drop 3).take 10 = d.cells.toList := hd
  have e4 : (cs.drop 13).take 2 = [.int .u8 vk, .int .i64 vn] := hval
  have e5 : (cs.drop 15).take 1 = [.int .i64 z5] := g5
  have e6 : (cs.drop 16).take 1 = [.int .i64 z6] := g6
  have e7 : (cs.drop 17).take 1 = [.int .i64 z7] := g7
  have e8 : (cs.drop 18).take 1 = [.int .i64 z8] := g8
  have e9 : (cs.drop 19).take 1 = [.int .i64 z9] := g9
  have e10 : (cs.drop 20).take 1 = [.int .i64 z10] := g10
  have e11 : (cs.drop 21).take 1 = [.int .i64 z11] := g11
  have hk := w8_of w0
  refine ⟨⟨z0, z1, s2, d, vk, vn, z5, z6, z7, z8, z9, z10, z11⟩, ?_, hk.1, hk.2, wd, w2, wv⟩
  have st : ∀ (a k : Nat), cs.drop a = (cs.drop a).take k ++ cs.drop (a + k) := fun a k => by
    rw [← List.drop_drop, List.take_append_drop]
  have f0 : cs = cs.drop 0 := rfl
  rw [f0, st 0 1, st (0 + 1) 1, st (0 + 1 + 1) 1, st (0 + 1 + 1 + 1) 10, st (0 + 1 + 1 + 1 + 10) 2, st (0 + 1 + 1 + 1 + 10 + 2) 1, st (0 + 1 + 1 + 1 + 10 + 2 + 1) 1, st (0 + 1 + 1 + 1 + 10 + 2 + 1 + 1) 1, st (0 + 1 + 1 + 1 + 10 + 2 + 1 + 1 + 1) 1, st (0 + 1 + 1 + 1 + 10 + 2 + 1 + 1 + 1 + 1) 1, st (0 + 1 + 1 + 1 + 10 + 2 + 1 + 1 + 1 + 1 + 1) 1, st (0 + 1 + 1 + 1 + 10 + 2 + 1 + 1 + 1 + 1 + 1 + 1) 1]
  simp only [Nat.zero_add, Nat.reduceAdd]
  rw [e0, e1, e2, e3, e4, e5, e6, e7, e8, e9, e10, e11, List.drop_of_length_le (by omega)]
  rfl

theorem open_ns (hv : Value.okWide Tryd.prog W r b0 22 v) (h : DataW.Trod enc Tryd.prog W 0 (fun _ => true) true 22 v d ps) : ∃ l : List Nod, Ns W v l ∧ WfL l ∧ l.length ≤ 9223372036854775807 := by
  obtain ⟨a, len, cap, rfl⟩ := okWide_slice Tryd.underlying22 hv
  obtain ⟨f, hf⟩ := h
  obtain ⟨l, h1, h2⟩ := open_rowsP (fun x : Nod => x.cells.toList) WfN Tryd.underlying22 c37 (by omega) (fun _ => rfl) (fun n cs y hy => nod_of hy) hf
  refine ⟨l, RowN.mono h1 fun _ _ h => h.elim, fun i x hx => h2 x (List.mem_of_getElem? hx), ?_⟩
  have hlen : len = l.length := by
    obtain ⟨A, c, hA⟩ := RowN.form h1
    rw [List.length_map] at hA
    injection hA with _ hA _
  rw [← hlen]
  rcases open_slice Tryd.underlying22 hf with ⟨hcs, _⟩ | ⟨a', len', cap', m, n, D, Pl, hcs, _, hl, hm, _⟩
  · simp [Value.cells] at hcs
    omega
  · simp [Value.cells] at hcs
    obtain ⟨_, rfl, rfl⟩ := hcs
    have : maxLen = 9223372036854775807 := rfl
    omega
end
end Go.Proofs.YtgpobhnonjdamaaDoor
