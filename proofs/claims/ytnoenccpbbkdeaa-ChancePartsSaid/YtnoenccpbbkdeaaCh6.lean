/- What layer 9 says of all places, part by part: plain facts; what chance.lineEnds' loop knows. No walk. -/
import Derived.Test.YtnoenccpbbkdeaaCh5
import Derived.Test.YtnoenccpbbkdeaaGO
import Derived.Test.YtnoenccpbbkdeaaGL
namespace Go.Proofs.Ytnoenccpbbkdeaa
open Go.ChangeShapes Go.WideShapes Go.ChangeAt Go.RowKit Go.Shelf
open Wh (Cr)
open Ch

/-- does layer 9 have a break at place j? -/
def bkF (ss : List Sty) (l : List Cr) (j : Nat) : Bool := brkC ss (Ch.stC ss z0 (l.take j)).1 (l.getD j zCr)
/-- the characters' classes -/
def clL (ss : List Sty) (l : List Cr) : List Int := l.map fun c => clsC c (stl ss c.node)
theorem clL_len (ss : List Sty) (l : List Cr) : (clL ss l).length = l.length := by simp [clL]
theorem clL_pos (ss : List Sty) (l : List Cr) : ∀ c ∈ clL ss l, 0 ≤ c := fun c hc => by
  obtain ⟨x, _, rfl⟩ := List.mem_map.1 hc
  exact (clsC_bd x _).1
theorem bkF_at {ss : List Sty} {l : List Cr} {j : Nat} {c : Cr} (h : l[j]? = some c) : bkF ss l j = brkC ss (Ch.stC ss z0 (l.take j)).1 c := by
  unfold bkF
  rw [List.getD_eq_getElem?_getD, h]
  rfl
theorem while_take {α : Type} (p : α → Bool) : ∀ (n : Nat) (m : List α), (∀ k d, k < n → m[k]? = some d → p d = true) → n ≤ m.length → (m.length = n ∨ ∃ d, m[n]? = some d ∧ p d = false) → m.takeWhile p = m.take n
  | 0, [], _, _, _ => rfl
  | 0, x :: t, _, _, h => by
    rcases h with h | ⟨d, hd, hp⟩
    · simp at h
    · simp at hd
      subst hd
      simp [hp]
  | n + 1, [], _, h, _ => by simp at h
  | n + 1, x :: t, h0, h1, h2 => by
    have hx : p x = true := h0 0 x (by omega) rfl
    rw [List.takeWhile_cons, if_pos hx, List.take_succ_cons]
    congr 1
    exact while_take p n t (fun k d hk hd => h0 (k + 1) d (by omega) (by simpa using hd)) (by simpa using h1) (by
      rcases h2 with h | ⟨d, hd, hp⟩
      · exact .inl (by simpa using h)
      · exact .inr ⟨d, by simpa using hd, hp⟩)
theorem prt_part {ss : List Sty} {l : List Cr} {f t : Nat} (h : Part l f t) : prt ss (l.drop f) = ((clL ss l).drop f).take (t - f) := by
  unfold prt clL
  rw [← List.map_drop, ← List.map_take]
  congr 1
  have hle := h.le
  have hlen := h.len
  refine while_take _ (t - f) (l.drop f) (fun k d hk hd => ?_) (by rw [List.length_drop]; omega) ?_
  · rw [List.getElem?_drop] at hd
    simpa using h.mid (f + k) d (by omega) (by omega) hd
  · rcases h.fin with e | ⟨c, hc, h5⟩
    · exact .inl (by rw [List.length_drop]; omega)
    · exact .inr ⟨c, by rw [List.getElem?_drop, show f + (t - f) = t by omega]; exact hc, by simp [h5]⟩
/-- what layer 9 says of a part -/
def prB (ss : List Sty) (l : List Cr) (f t : Nat) : List Bool := breaksL (((clL ss l).drop f).take (t - f))
theorem prB_len {ss : List Sty} {l : List Cr} {f t : Nat} (h : Part l f t) : (prB ss l f t).length = t - f := by
  have := h.len
  unfold prB
  rw [breaksL_len, List.length_take, List.length_drop, clL_len]
  omega
theorem prB_at {ss : List Sty} {l : List Cr} {f t : Nat} (h : Part l f t) {i : Nat} (h1 : f ≤ i) (h2 : i < t) : (prB ss l f t)[i - f]? = some (bkF ss l i) := by
  obtain ⟨c, hc⟩ := at_ (l := l) (k := i) (by have := h.len; omega)
  have e := part_brk (ss := ss) h1 hc h.beg fun k d hk hki hd => h.mid k d hk (by omega) hd
  rw [prt_part h] at e
  have hl : i - f < (prB ss l f t).length := by rw [prB_len h]; omega
  have e2 : (((prB ss l f t)[i - f]?).getD false) = brkC ss (Ch.stC ss z0 (l.take i)).1 c := e
  rw [List.getElem?_eq_getElem hl] at e2 ⊢
  rw [bkF_at hc, ← e2]
  rfl
/-- a forced break has none -/
theorem bkF_forced {ss : List Sty} {l : List Cr} {j : Nat} {c : Cr} (h : l[j]? = some c) (h5 : c.kind = 5) : bkF ss l j = false := by
  rw [bkF_at h]
  unfold brkC
  rw [if_pos h5]
/-- all parts together tell all places -/
theorem all_told {ss : List Sty} {l : List Cr} {P : List (Nat × Nat)} (h : ∀ j c, l[j]? = some c → c.kind ≠ 5 → cov P j = true) {j : Nat} (hj : j < l.length) : (cov P j && bkF ss l j) = bkF ss l j := by
  obtain ⟨c, hc⟩ := at_ hj
  by_cases h5 : c.kind = 5
  · rw [bkF_forced hc h5, Bool.and_false]
  · rw [h j c hc h5, Bool.true_and]

/-! ### rows with a piece laid over -/
theorem rowV_ext {n : Nat} {F G : Nat → Value} (h : ∀ j, j < n → F j = G j) : rowV n F = rowV n G := by
  apply Array.ext_getElem?
  intro j
  by_cases hj : j < n
  · rw [rowV_get hj, rowV_get hj, h j hj]
  · rw [Array.getElem?_eq_none_iff.2 (by rw [rowV_size]; omega), Array.getElem?_eq_none_iff.2 (by rw [rowV_size]; omega)]
theorem rowV_over {n : Nat} {F G : Nat → Value} {cs : List Value} {f fo : Nat} (hf : f + cs.length ≤ n) (hfo : fo = f ∨ (cs = [] ∧ fo ≤ n)) (hin : ∀ j v, cs[j]? = some v → G (f + j) = v) (hout : ∀ j, j < n → ¬ (f ≤ j ∧ j < f + cs.length) → G j = F j) :
    ((rowV n F).toList.take fo ++ cs ++ (rowV n F).toList.drop (fo + cs.length)).toArray = rowV n G := by
  have e : ((rowV n F).toList.take fo ++ cs ++ (rowV n F).toList.drop (fo + cs.length)).toArray = spl (rowV n F) fo cs := by unfold spl; rw [List.append_assoc]
  rw [e]
  rcases hfo with rfl | ⟨rfl, _⟩
  · apply Array.ext_getElem?
    intro j
    by_cases hj : fo ≤ j ∧ j < fo + cs.length
    · obtain ⟨k, rfl⟩ : ∃ k, j = fo + k := ⟨j - fo, by omega⟩
      rw [spl_in _ _ _ (by rw [rowV_size]; omega) k (by omega), rowV_get (by omega)]
      obtain ⟨v, hv⟩ : ∃ v, cs[k]? = some v := ⟨_, List.getElem?_eq_getElem (by omega)⟩
      rw [hv, hin k v hv]
    · rw [spl_out _ _ _ (by rw [rowV_size]; omega) j (by omega)]
      by_cases hn : j < n
      · rw [rowV_get hn, rowV_get hn, hout j hn hj]
      · rw [Array.getElem?_eq_none_iff.2 (by rw [rowV_size]; omega), Array.getElem?_eq_none_iff.2 (by rw [rowV_size]; omega)]
  · rw [spl_nil]
    exact rowV_ext fun j hj => (hout j hj (by simp)).symm

/-! ### s[f:t] -/
def midV (g n f t : Nat) : Value := .slice (if n = f then some ⟨g, 0, none⟩ else some ((⟨g, 0, none⟩ : Addr).add f)) (t - f) (n - f)
theorem midV_is (g n f t : Nat) : midV g n f t = .slice (some ⟨g, if n = f then 0 else f, none⟩) (t - f) (n - f) := by
  unfold midV
  by_cases e : n = f
  · rw [if_pos e, if_pos e]
  · rw [if_neg e, if_neg e]
    have : (⟨g, 0, none⟩ : Addr).add f = ⟨g, f, none⟩ := by unfold Addr.add; split <;> simp_all
    rw [this]
theorem sl_mid8 (g n f t : Nat) (W : World) (h1 : f ≤ t) (h2 : t ≤ n) : (Instr.slice 29 (.slice (some ⟨g, 0, none⟩) n n) (some (.int .i64 (f : Int))) (some (.int .i64 (t : Int))) none).run Try.prog W = .ok (midV g n f t) W := by
  have h3 : (f : Int) ≤ t := by omega
  have h4 : (t : Int) ≤ n := by omega
  have h5 : (f : Int) ≤ n := by omega
  unfold midV
  go_simp
theorem sl_midB (g n f t : Nat) (W : World) (h1 : f ≤ t) (h2 : t ≤ n) : (Instr.slice 49 (.slice (some ⟨g, 0, none⟩) n n) (some (.int .i64 (f : Int))) (some (.int .i64 (t : Int))) none).run Try.prog W = .ok (midV g n f t) W := by
  have h3 : (f : Int) ≤ t := by omega
  have h4 : (t : Int) ≤ n := by omega
  have h5 : (f : Int) ≤ n := by omega
  unfold midV
  go_simp
/-- a piece of a row of classes -/
theorem mid_row {W : World} {g n f t : Nat} {ty : TypeId} {gc : Nat → Value} {xs : List Int} (hB : Blk W g ty (rowV n gc)) (hx : xs.length = n) (hg : ∀ j x, xs[j]? = some x → gc j = .int .u8 x) (h1 : f ≤ t) (h2 : t ≤ n) : R8 W (midV g n f t) ((xs.drop f).take (t - f)) := by
  rw [midV_is]
  have hlen : ((xs.drop f).take (t - f)).length = t - f := by rw [List.length_take, List.length_drop]; omega
  refine .inr ⟨⟨g, if n = f then 0 else f, none⟩, n - f, by rw [r8_len, hlen], .inr ⟨hB.lt, id⟩, fun j u hj => ?_⟩
  have hjl : j < t - f := by
    have := (List.getElem?_eq_some_iff.1 hj).1
    rwa [r8_len, hlen] at this
  have hnf : ¬ n = f := by omega
  rw [if_neg hnf]
  have e : (⟨g, f, none⟩ : Addr).add j = ⟨g, f + j, none⟩ := by unfold Addr.add; split <;> simp_all
  rw [e, hB.cell, rowV_get (by omega)]
  unfold r8 at hj
  rw [List.getElem?_map, List.getElem?_take, if_pos hjl, List.getElem?_drop] at hj
  cases hq : xs[f + j]? with
  | none => rw [hq] at hj; cases hj
  | some x =>
    rw [hq] at hj
    injection hj with hj
    rw [hg _ x hq, ← hj]

/-! ### what the loop of lineEnds knows -/
structure Pl (w0 : World) (L Gc Bc Ge Be Bs n : Nat) (gc : Nat → Value) (bk : Nat → Bool) (vl : Value) (rdy : Obj) (P : List (Nat × Nat)) (X : World) : Prop where
  cl : Blk X Gc 5 (rowV n gc)
  bc : Boxed X Bc 29 (.slice (some ⟨Gc, 0, none⟩) n n)
  row : Blk X Ge 4 (rowV n fun j => .bool (cov P j && bk j))
  be : Boxed X Be 49 (.slice (some ⟨Ge, 0, none⟩) n n)
  ls : Boxed X Bs 47 vl
  loop : X.heap[L]? = some rdy
  defd : X.heap[L - 1]? = some (.deferred (some []))
  below : Below w0.heap.size w0 X
  size : L < X.heap.size
section
variable {w0 : World} {L Gc Bc Ge Be Bs n : Nat} {gc : Nat → Value} {bk : Nat → Bool} {vl : Value} {rdy : Obj} {P : List (Nat × Nat)} {X Y : World}
theorem Pl.mod {B : Nat} (h : Pl w0 L Gc Bc Ge Be Bs n gc bk vl rdy P X) (hB : L < B) (h1 : Gc < B) (h2 : Bc < B) (h3 : Ge < B) (h4 : Be < B) (h5 : Bs < B) (h6 : w0.heap.size ≤ B) (m : Mod (fun k => B ≤ k) X Y) : Pl w0 L Gc Bc Ge Be Bs n gc bk vl rdy P Y :=
  ⟨h.cl.keep m (by omega), (m.block _ h.bc.lt (by omega)).trans h.bc, h.row.keep m (by omega), (m.block _ h.be.lt (by omega)).trans h.be, (m.block _ h.ls.lt (by omega)).trans h.ls,
   (m.block _ h.size (by omega)).trans h.loop, (m.block _ (by have := h.size; omega) (by omega)).trans h.defd, h.below.trans (m.below h.below.size (fun k hk => by omega)), Nat.lt_of_lt_of_le h.size m.size⟩
theorem Pl.put (o : Obj) (h : Pl w0 L Gc Bc Ge Be Bs n gc bk vl rdy P X) (h0 : w0.heap.size ≤ L - 1) (h1 : Gc < L - 1) (h2 : Bc < L - 1) (h3 : Ge < L - 1) (h4 : Be < L - 1) (h5 : Bs < L - 1) : Pl w0 L Gc Bc Ge Be Bs n gc bk vl o P (X.putObj L o) := by
  have k : ∀ j, j ≠ L → (X.putObj L o).heap[j]? = X.heap[j]? := fun j hj => World.putObj_heap_other hj
  exact ⟨(k _ (by omega)).trans h.cl, (k _ (by omega)).trans h.bc, (k _ (by omega)).trans h.row, (k _ (by omega)).trans h.be, (k _ (by omega)).trans h.ls, World.putObj_heap_same h.size, (k _ (by omega)).trans h.defd,
    h.below.grown (grownBy_putObj' X L o) h.below.size (fun j e => by injection e with e; omega), by simp [World.putObj]; exact h.size⟩
theorem Pl.over {P' : List (Nat × Nat)} (h : Pl w0 L Gc Bc Ge Be Bs n gc bk vl rdy P X) (m : Mod (fun k => k = Ge) X Y) (hb : w0.heap.size ≤ Ge) (h1 : Gc ≠ Ge) (h2 : Bc ≠ Ge) (h3 : Be ≠ Ge) (h4 : Bs ≠ Ge) (h5 : L ≠ Ge) (h6 : L - 1 ≠ Ge)
    (hr : Blk Y Ge 4 (rowV n fun j => .bool (cov P' j && bk j))) : Pl w0 L Gc Bc Ge Be Bs n gc bk vl rdy P' Y :=
  ⟨h.cl.keep m h1, (m.block _ h.bc.lt h2).trans h.bc, hr, (m.block _ h.be.lt h3).trans h.be, (m.block _ h.ls.lt h4).trans h.ls,
   (m.block _ h.size h5).trans h.loop, (m.block _ (by have := h.size; omega) h6).trans h.defd, h.below.trans (m.below h.below.size (fun k hk => by omega)), Nat.lt_of_lt_of_le h.size m.size⟩
end
end Go.Proofs.Ytnoenccpbbkdeaa
