/- Contracts of the document's answers for layer 3 (package stickfulref03): bad, TakeNum. Conditions: a row that has what a reader has; at most 1000000000 bytes. -/
import Derived.Test.YtfhceblmjahgjaaPkR4
import Derived.Test.YtfhceblmjahgjaaPkF2
import Derived.Deep.RegionHeld3
namespace Go.Proofs.Ytfhceblmjahgjaa
open Go.ChangeShapes Go.WideShapes Go.ChangeAt Go.RowKit

/-- a row of the document's, as a value -/
abbrev rowV (q : Pk.Left) (s : ByteArray) : Value := .agg #[.string s, .bool q.isSome]

/-- a value and a row are returned; nothing that was there has changed -/
def TkPost (w : World) (v : Value) (q : Pk.Left) (e : Ending) (w' : World) : Prop := (∃ s', e = .returned (.tuple #[v, rowV q s']) ∧ rdCells q s' ∧ s'.size ≤ 1000000000) ∧ Below w.heap.size w w'

set_option maxRecDepth 100000 in
theorem bad_any (w : World) : Calls Try.prog 67 #[] w fun e w' => e = .returned (.agg #[.string ⟨#[]⟩, .bool false]) ∧ Below w.heap.size w w' := by
  go_enter Try.func67, Try.ntmps67
  go_wp2_with fail
  exact bodyPost_ret (v := .agg #[.string ⟨#[]⟩, .bool false]) (by simp [results, Try.results67, go_sem]) rfl ⟨rfl, (Below.refl _ _).alloc (Nat.le_refl _) _⟩

theorem rowSize : (Try.prog.info? 39).map (·.size) = some 2 := by kernel_rfl

/-- a value in a slot and a row in a block of its own are returned -/
theorem res_row {fn : Func} {u p : Tmp} (h : fn.results = #[.tmp u, .cell p 39]) (tmps : Array Value) (w : World) (g : Nat) (x y : Value)
    (hp : tmps.getD p undef = .pointer (some ⟨g, 0, none⟩)) (hb : Blk w g 39 #[x, y]) :
    (results fn tmps).run Try.prog w = .ok (.tuple #[tmps.getD u undef, .agg #[x, y]]) w := by
  have hp' : tmps[p]?.getD undef = .pointer (some ⟨g, 0, none⟩) := by simpa using hp
  have hb' : w.heap[g]? = some (.cells #[x, y] 39 (0, 0)) := hb
  simp [results, h, hp', asAddr, run_loadVar_row w g 39 39 #[x, y] (0, 0) _ hb' Try.underlying39 rfl rowSize]

theorem two_set {w : World} {g : Nat} {a b c d : Value} (h : Blk w g 39 #[a, b]) : Blk ((w.setCell ⟨g, 0, none⟩ c).setCell ⟨g, 1, none⟩ d) g 39 #[c, d] := (h.set_ 0 c).set_ 1 d
theorem below_two {B g : Nat} {w0 w : World} {c d : Value} (h : Below B w0 w) (hg : B ≤ g) : Below B w0 ((w.setCell ⟨g, 0, none⟩ c).setCell ⟨g, 1, none⟩ d) := (h.setCell (p := ⟨g, 0, none⟩) hg c).setCell (p := ⟨g, 1, none⟩) hg d

/-- the worlds that a function starts in which takes a row and returns one -/
abbrev W2 (w : World) (q : Pk.Left) (s : ByteArray) : World := (w.alloc (.cells #[.string s, .bool q.isSome] 39)).alloc (.cells #[.string ⟨#[]⟩, .bool false] 39)
theorem W2.arg (w : World) (q : Pk.Left) (s : ByteArray) : Blk (W2 w q s) w.heap.size 39 #[.string s, .bool q.isSome] := (Blk.new _ _ _).alloc _
theorem W2.res (w : World) (q : Pk.Left) (s : ByteArray) : Blk (W2 w q s) (w.heap.size + 1) 39 #[.string ⟨#[]⟩, .bool false] := by
  have := Blk.new (w.alloc (.cells #[.string s, .bool q.isSome] 39)) 39 #[.string ⟨#[]⟩, .bool false]
  simpa using this
theorem W2.below (w : World) (q : Pk.Left) (s : ByteArray) : Below w.heap.size w (W2 w q s) := below_seq (below_alloc _ _) (below_alloc _ _)
theorem W2.size (w : World) (q : Pk.Left) (s : ByteArray) : (W2 w q s).heap.size = w.heap.size + 2 := by simp

set_option maxRecDepth 100000 in
set_option maxHeartbeats 2000000 in
theorem takeNum_bad (q : Pk.Left) (s : ByteArray) (w : World) (h : q = none ∨ s.size = 0) (hq : rdCells q s) :
    Calls Try.prog 55 #[rowV q s] w (TkPost w (.int .u64 0) none) := by
  have C := Lib.hid (fun w => bad_any w)
  have h2 : (q = none ∧ s = ByteArray.empty) ∨ (q.isSome = true ∧ s = ByteArray.empty) := by
    cases q with
    | none => exact .inl ⟨rfl, hq⟩
    | some l =>
      rcases h with h | h
      · cases h
      · exact .inr ⟨rfl, bs_nil s h⟩
  have HR := Lib.hid (W2.res w q s)
  have HBB := Lib.hid (W2.below w q s)
  have HSZ := Lib.hid (W2.size w q s)
  clear h hq
  rcases h2 with ⟨rfl, rfl⟩ | ⟨hq, rfl⟩
  · go_enter Try.func55, Try.ntmps55
    go_wp2_with fail
    refine (C.out _).mono ?_
    rintro e w3 ⟨rfl, b3⟩
    have HR3 := Lib.hid (HR.out.keep (S := fun _ => False) (Mod.of_below b3) id)
    have B3 := Lib.hid (below_seq HBB.out b3)
    have h0 : w3.cell? ⟨w.heap.size + 1, 0, none⟩ = some (.string ⟨#[]⟩) := HR3.out.cell 0
    have h1 : w3.cell? ⟨w.heap.size + 1, 1, none⟩ = some (.bool false) := HR3.out.cell 1
    have f0 := HR3.out.frozen 0
    have f1 := HR3.out.frozen 1
    clear b3
    go_wp2_with fail
    (try simp only [Exit.inBlock, Exit.then])
    refine ⟨rfl, _, res_row rfl _ _ (w.heap.size + 1) _ _ rfl (two_set HR3.out), ?_⟩
    exact ⟨⟨_, rfl, rfl, by decide⟩, below_two B3.out (by omega)⟩
  · rw [show rowV q ByteArray.empty = .agg #[.string ByteArray.empty, .bool true] by rw [rowV, hq]]
    have HR2 : Hid (Blk ((w.alloc (.cells #[.string ByteArray.empty, .bool true] 39)).alloc (.cells #[.string ⟨#[]⟩, .bool false] 39)) (w.heap.size + 1) 39 #[.string ⟨#[]⟩, .bool false]) := by
      have := HR.out
      simp only [W2, hq] at this
      exact this
    have HB2 : Hid (Below w.heap.size w ((w.alloc (.cells #[.string ByteArray.empty, .bool true] 39)).alloc (.cells #[.string ⟨#[]⟩, .bool false] 39))) := below_seq (below_alloc _ _) (below_alloc _ _)
    clear hq HR HBB HSZ
    go_enter Try.func55, Try.ntmps55
    go_wp2_with fail
    refine (C.out _).mono ?_
    rintro e w3 ⟨rfl, b3⟩
    have HR3 := Lib.hid (HR2.out.keep (S := fun _ => False) (Mod.of_below b3) id)
    have B3 := Lib.hid (below_seq HB2.out b3)
    have h0 : w3.cell? ⟨w.heap.size + 1, 0, none⟩ = some (.string ⟨#[]⟩) := HR3.out.cell 0
    have h1 : w3.cell? ⟨w.heap.size + 1, 1, none⟩ = some (.bool false) := HR3.out.cell 1
    have f0 := HR3.out.frozen 0
    have f1 := HR3.out.frozen 1
    clear b3
    go_wp2_with fail
    (try simp only [Exit.inBlock, Exit.then])
    refine ⟨rfl, _, res_row rfl _ _ (w.heap.size + 1) _ _ rfl (two_set HR3.out), ?_⟩
    exact ⟨⟨_, rfl, rfl, by decide⟩, below_two B3.out (by omega)⟩
end Go.Proofs.Ytfhceblmjahgjaa
