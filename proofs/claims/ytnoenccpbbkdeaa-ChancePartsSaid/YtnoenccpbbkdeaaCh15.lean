/- What the laws of chance share: Chances of a list that may be or may not; a list in its box. Conditions: the slices read as the lists. -/
import Derived.Test.YtnoenccpbbkdeaaCh14
namespace Go.Proofs.Ytnoenccpbbkdeaa
open Go.ChangeShapes Go.WideShapes Go.ChangeAt Go.RowKit Go.Shelf
open Wh (Cr)
open Ch

theorem chances_both (ss : List Sty) (l : List Cr) (rs : List Int) (v vs vr : Value) (w : World) (hR : RwC w v l) (hS : Ss w vs ss) (hI : RI w vr rs) (hlen : l.length ≤ 100000) :
    Calls Try.prog 10 #[v, vs, vr] w fun e w' => ∃ u, e = .returned (.tuple #[u, .int .i64 (if mayC l ss.length rs = true then 0 else 2)]) ∧ R8 w' u (if mayC l ss.length rs = true then chn ss z0 l rs else []) ∧ Below w.heap.size w w' := by
  by_cases hm : mayC l ss.length rs = true
  · simp only [if_pos hm]
    exact (chances_ok ss l rs v vs vr w hR hS hI hlen hm).mono fun e w' ⟨G, h1, _, h3, h4⟩ => ⟨_, h1, h3, h4⟩
  · simp only [if_neg hm]
    exact (chances_no ss l rs v vs vr w hR hS hI hlen (by simpa using hm)).mono fun e w' ⟨h1, h2⟩ => ⟨_, h1, .inl ⟨rfl, rfl⟩, h2⟩

theorem rchances_both (ss : List Sty) (l : List Cr) (rs : List Int) (v vs vr : Value) (w : World) (hR : RwC w v l) (hS : Ss w vs ss) (hI : RI w vr rs) (hlen : l.length ≤ 100000) :
    Calls Try.prog 11 #[v, vs, vr] w fun e w' => ∃ u, e = .returned (.tuple #[u, .int .i64 (if mayC l ss.length rs = true then 0 else 2)]) ∧ R8 w' u (if mayC l ss.length rs = true then chn ss z0 l rs else []) ∧ Below w.heap.size w w' := by
  by_cases hm : mayC l ss.length rs = true
  · simp only [if_pos hm]
    exact (rchances_ok ss l rs v vs vr w hR hS hI hlen hm).mono fun e w' h => h
  · simp only [if_neg hm]
    exact (rchances_no ss l rs v vs vr w hR hS hI hlen (by simpa using hm)).mono fun e w' ⟨h1, h2⟩ => ⟨_, h1, .inl ⟨rfl, rfl⟩, h2⟩

theorem bxList (A1 A2 A3 : Option Addr) (n1 n2 n3 c1 c2 c3 : Nat) (w : World) : (Instr.box 26 (.agg #[.slice A1 n1 c1, .slice A2 n2 c2, .slice A3 n3 c3])).run Try.prog w = .ok (.pointer (some ⟨w.heap.size, 0, none⟩)) (w.alloc (.cells #[.slice A1 n1 c1, .slice A2 n2 c2, .slice A3 n3 c3] 26)) := by kernel_rfl
theorem iList : (Try.prog.info? 26).map (·.size) = some 3 := by kernel_rfl
section
variable {ops : Array Oper} {Q : Exit → Act → World → Prop} {a : Act} {w : World} {rest : List Oper} {o : Oper}
theorem bxLV (hg : o.guard = none) (x : Operand) (ho : o.op = .box 26 x) {A1 A2 A3 : Option Addr} {n1 n2 n3 c1 c2 c3 : Nat} (hx : a.eval x = .agg #[.slice A1 n1 c1, .slice A2 n2 c2, .slice A3 n3 c3])
    (h : ∀ w', Below w.heap.size w w' → Blk w' w.heap.size 26 #[.slice A1 n1 c1, .slice A2 n2 c2, .slice A3 n3 c3] → wpList Try.prog ops Q rest (a.put o.dst (.pointer (some ⟨w.heap.size, 0, none⟩))) w') : wpList Try.prog ops Q (o :: rest) a w :=
  wpList_boxL hg 26 x ho _ hx (bxList A1 A2 A3 n1 n2 n3 c1 c2 c3) h
theorem ldLV (hg : o.guard = none) (x : Operand) (ho : o.op = .load 26 x) (p : Addr) (hx : a.eval x = .pointer (some p)) {A1 A2 A3 : Option Addr} {n1 n2 n3 c1 c2 c3 : Nat} (hL : Lies w p #[.slice A1 n1 c1, .slice A2 n2 c2, .slice A3 n3 c3])
    (h : wpList Try.prog ops Q rest (a.put o.dst (.agg #[.slice A1 n1 c1, .slice A2 n2 c2, .slice A3 n3 c3])) w) : wpList Try.prog ops Q (o :: rest) a w :=
  wpList_loadL hg 26 x ho p hx _ _ hL Try.underlying26 rfl iList h
end
theorem great_no {n1 n2 n3 : Nat} (h : ¬ (decide (100 < n1) || decide (40 < n2) || decide (150 < n3)) = true) : n1 ≤ 100 ∧ n2 ≤ 40 ∧ n3 ≤ 150 := by
  simp at h
  omega
/-- the box of a list and what its slices read as, in a later world -/
structure Bx (w : World) (p : Nat) (A1 A2 A3 : Option Addr) (n1 n2 n3 c1 c2 c3 : Nat) (l : List Cr) (ss : List Sty) (rs : List Int) : Prop where
  blk : Blk w p 26 #[.slice A1 n1 c1, .slice A2 n2 c2, .slice A3 n3 c3]
  ch : RwC w (.slice A1 n1 c1) l
  st : Ss w (.slice A2 n2 c2) ss
  ru : RI w (.slice A3 n3 c3) rs
theorem Bx.below {w w' : World} {p : Nat} {A1 A2 A3 : Option Addr} {n1 n2 n3 c1 c2 c3 : Nat} {l : List Cr} {ss : List Sty} {rs : List Int} (h : Bx w p A1 A2 A3 n1 n2 n3 c1 c2 c3 l ss rs) (b : Below w.heap.size w w') : Bx w' p A1 A2 A3 n1 n2 n3 c1 c2 c3 l ss rs :=
  ⟨h.blk.keep (S := fun _ => False) (Mod.of_below b) id, h.ch.below b, h.st.below b, h.ru.below b⟩
theorem Bx.q {w : World} {p : Nat} {A1 A2 A3 : Option Addr} {n1 n2 n3 c1 c2 c3 : Nat} {l : List Cr} {ss : List Sty} {rs : List Int} (h : Bx w p A1 A2 A3 n1 n2 n3 c1 c2 c3 l ss rs) :
    w.cell? ⟨p, 0, none⟩ = some (.slice A1 n1 c1) ∧ w.cell? ⟨p, 1, none⟩ = some (.slice A2 n2 c2) ∧ w.cell? ⟨p, 2, none⟩ = some (.slice A3 n3 c3) := ⟨h.blk.cell 0, h.blk.cell 1, h.blk.cell 2⟩
end Go.Proofs.Ytnoenccpbbkdeaa
