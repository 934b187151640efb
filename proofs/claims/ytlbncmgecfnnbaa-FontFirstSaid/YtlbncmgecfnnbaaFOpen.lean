/- An argument that is a font, opened to its numbers and its ranges. No walk. -/
import Derived.Test.YtlbncmgecfnnbaaF6
import Derived.ChangeOld
namespace Go.Proofs.Ytlbncmgecfnnbaa
open Go.ChangeShapes Go.WideShapes Go.ChangeAt Go.RowKit Go.Deep

theorem own : ownKnob Try.prog.godebug = none := by kernel_rfl
theorem laidOut : laidOutB Try.prog = true := by kernel_rfl
theorem w64_of {a : Int} (h : (Lit.int .i64 a).wf = true) : W64 a := by
  simpa [Lit.wf, IntKind.min, IntKind.max, IntKind.signed, IntKind.bits, W64] using h
theorem w32_of {a : Int} (h : (Lit.int .i32 a).wf = true) : W32 a := by
  simpa [Lit.wf, IntKind.min, IntKind.max, IntKind.signed, IntKind.bits, W32] using h

section
variable {H : Type} {enc : TypeId × Value → H} {W : World} {r : Reach} {b0 : Nat} {v : Value} {d : DataW H} {ps : List MemPlace}

theorem range_of {fs : Array Field} {x : List Value} (hfs : Try.prog.underlying 38 = some (.struct fs)) (h : Fields enc Try.prog W fs x) : ∃ y : Rg, x = y.cells ∧ (W32 y.f ∧ W32 y.t ∧ W64 y.a) := by
  rw [Try.underlying38] at hfs
  injection hfs with hfs
  injection hfs with hfs
  subst hfs
  obtain ⟨hl, hf⟩ := h
  obtain ⟨u0, y0, n0, e0, t0⟩ := hf 0 _ rfl
  obtain ⟨u1, y1, n1, e1, t1⟩ := hf 1 _ rfl
  obtain ⟨u2, y2, n2, e2, t2⟩ := hf 2 _ rfl
  match x, hl, e0, e1, e2 with
  | [c0, c1, c2], _, e0, e1, e2 =>
    obtain rfl : c0 = u0 := Option.some.inj e0
    obtain rfl : c1 = u1 := Option.some.inj e1
    obtain rfl : c2 = u2 := Option.some.inj e2
    obtain ⟨z0, g0, _, w0⟩ := DataW.trod_int Try.underlying21 t0
    obtain ⟨z1, g1, _, w1⟩ := DataW.trod_int Try.underlying21 t1
    obtain ⟨z2, g2, _, w2⟩ := DataW.trod_int Try.underlying3 t2
    injection g0 with g0
    injection g1 with g1
    injection g2 with g2
    subst g0 g1 g2
    exact ⟨⟨z0, z1, z2⟩, rfl, w32_of w0, w32_of w1, w64_of w2⟩

theorem font_of {fs : Array Field} {x : List Value} (hfs : Try.prog.underlying 24 = some (.struct fs)) (h : Fields enc Try.prog W fs x) : ∃ F : Fnt, x.toArray = F.cells ∧ F.Wf ∧ F.In W := by
  rw [Try.underlying24] at hfs
  injection hfs with hfs
  injection hfs with hfs
  subst hfs
  obtain ⟨hl, hf⟩ := h
  obtain ⟨u0, y0, n0, e0, t0⟩ := hf 0 _ rfl
  obtain ⟨u1, y1, n1, e1, t1⟩ := hf 1 _ rfl
  obtain ⟨u2, y2, n2, e2, t2⟩ := hf 2 _ rfl
  obtain ⟨u3, y3, n3, e3, t3⟩ := hf 3 _ rfl
  obtain ⟨u4, y4, n4, e4, t4⟩ := hf 4 _ rfl
  obtain ⟨u5, y5, n5, e5, t5⟩ := hf 5 _ rfl
  match x, hl, e0, e1, e2, e3, e4, e5 with
  | [c0, c1, c2, c3, c4, c5], _, e0, e1, e2, e3, e4, e5 =>
    obtain rfl : c0 = u0 := Option.some.inj e0
    obtain rfl : c1 = u1 := Option.some.inj e1
    obtain rfl : c2 = u2 := Option.some.inj e2
    obtain rfl : c3 = u3 := Option.some.inj e3
    obtain rfl : c4 = u4 := Option.some.inj e4
    obtain rfl : c5 = u5 := Option.some.inj e5
    obtain ⟨z0, g0, _, w0⟩ := DataW.trod_int Try.underlying3 t0
    obtain ⟨z1, g1, _, w1⟩ := DataW.trod_int Try.underlying3 t1
    obtain ⟨z2, g2, _, w2⟩ := DataW.trod_int Try.underlying3 t2
    obtain ⟨z3, g3, _, w3⟩ := DataW.trod_int Try.underlying3 t3
    obtain ⟨z4, g4, _, w4⟩ := DataW.trod_int Try.underlying3 t4
    obtain ⟨xs, hrow, hall, hlen⟩ := open_rowN (fs := _) Try.underlying22 Try.underlying38 (by kernel_rfl) (by kernel_rfl) (by decide) t5
    obtain ⟨rs, rfl, hrs⟩ := list_choose Rg.cells (fun y => W32 y.f ∧ W32 y.t ∧ W64 y.a) xs fun x hx => range_of Try.underlying38 (hall x hx)
    injection g0 with g0
    injection g1 with g1
    injection g2 with g2
    injection g3 with g3
    injection g4 with g4
    subst g0 g1 g2 g3 g4
    rw [List.length_map] at hlen
    exact ⟨⟨z0, z1, z2, z3, z4, c5, rs⟩, rfl, ⟨w64_of w0, w64_of w1, w64_of w2, w64_of w3, w64_of w4, hrs, hlen⟩, RowN.mono hrow fun _ _ h => h.elim⟩

theorem open_font (hv : Value.okWide Try.prog W r b0 24 v) (h : DataW.Trod enc Try.prog W 0 (fun _ => true) true 24 v d ps) : ∃ F : Fnt, v = F.val ∧ F.Wf ∧ F.In W := by
  obtain ⟨cs, rfl, hF⟩ := open_struct Try.underlying24 (by kernel_rfl) (by kernel_rfl) hv h
  obtain ⟨F, hc, hw, hi⟩ := font_of Try.underlying24 hF
  exact ⟨F, by rw [hc]; rfl, hw, hi⟩
end
end Go.Proofs.Ytlbncmgecfnnbaa
