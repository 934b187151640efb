/- Rows of characters, styles, numbers that a law makes by appends. No walk. -/
import Derived.Test.YtnoenccpbbkdeaaCh18
import Derived.Test.YtnoenccpbbkdeaaChRow
namespace Go.Proofs.Ytnoenccpbbkdeaa
open Go.ChangeShapes Go.WideShapes Go.ChangeAt Go.RowKit Go.Shelf
open Wh (Cr)
open Ch

theorem elhC : Elh Try.prog 22 39 5 40 := ⟨Try.underlying22, ⟨.agg (chA zCr), by kernel_rfl, rfl⟩, by decide, by decide⟩
theorem elhI : Elh Try.prog 24 3 1 8 := ⟨Try.underlying24, ⟨.int .i64 0, by kernel_rfl, rfl⟩, by decide, by decide⟩
theorem elhS : Elh Try.prog 23 36 9 48 := ⟨Try.underlying23, ⟨.agg Sty.zero.cells, by kernel_rfl, rfl⟩, by decide, by decide⟩
theorem elm8 : Elm Try.prog 29 5 1 1 := ⟨Try.underlying29, ⟨.int .u8 0, by kernel_rfl, rfl⟩, by decide, by decide⟩
theorem b0C (w : World) : (Instr.buildSlice 22 0 #[]).run Try.prog w = .ok (.slice (some ⟨w.heap.size, 0, none⟩) 0 0) (w.alloc (.cells #[] 39)) := by kernel_rfl
theorem b0I (w : World) : (Instr.buildSlice 24 0 #[]).run Try.prog w = .ok (.slice (some ⟨w.heap.size, 0, none⟩) 0 0) (w.alloc (.cells #[] 3)) := by kernel_rfl
theorem b08 (w : World) : (Instr.buildSlice 29 0 #[]).run Try.prog w = .ok (.slice (some ⟨w.heap.size, 0, none⟩) 0 0) (w.alloc (.cells #[] 5)) := by kernel_rfl
def ownI (base : Nat) (W : World) (u : Value) (l : List Int) : Prop := W.ownsRow base 3 1 u l.length (r64 l)
def ownS (base : Nat) (W : World) (u : Value) (l : List Sty) : Prop := W.ownsRow base 36 9 u l.length (flatS l)
theorem ownI.row {base : Nat} {W : World} {u : Value} {l : List Int} (h : ownI base W u l) : RI W u l := (Row.of_own h).mono (fun _ _ (h : False) => h.elim)
theorem ownS.row {base : Nat} {W : World} {u : Value} {l : List Sty} (h : ownS base W u l) : Ss W u l := own_ss h rfl
theorem ownC.snoc {base n : Nat} {W : World} {u : Value} {l : List Cr} {c : Cr} (hn : l.length = n) (h : W.ownsRow base 39 5 u (n + 1) (flatC l ++ (chA c).toList)) : ownC base W u (l ++ [c]) := by
  subst hn
  unfold ownC
  rw [List.length_append, flatC_snoc]
  exact h
theorem ownI.snoc {base n : Nat} {W : World} {u : Value} {l : List Int} {z : Int} (hn : l.length = n) (h : W.ownsRow base 3 1 u (n + 1) (r64 l ++ (#[.int .i64 z] : Array Value).toList)) : ownI base W u (l ++ [z]) := by
  subst hn
  unfold ownI
  rw [List.length_append, show r64 (l ++ [z]) = r64 l ++ [.int .i64 z] by simp [r64]]
  exact h
theorem ownS.snoc {base n : Nat} {W : World} {u : Value} {l : List Sty} {s : Sty} (hn : l.length = n) (h : W.ownsRow base 36 9 u (n + 1) (flatS l ++ s.cells.toList)) : ownS base W u (l ++ [s]) := by
  subst hn
  unfold ownS
  rw [List.length_append, flatS_snoc]
  exact h
theorem flatS_app (l m : List Sty) : flatS (l ++ m) = flatS l ++ flatS m := by simp [flatS]
theorem chFlat {W : World} {v : Value} {l : List Cr} (h : RwC W v l) : Flat W v l.length (flatC l) := by
  have := RowN.flat h (fun x hx => by obtain ⟨s, _, rfl⟩ := List.mem_map.1 hx; rfl)
  rwa [List.length_map] at this
theorem riFlat {W : World} {v : Value} {l : List Int} (h : RI W v l) : Flat W v l.length (r64 l) := by
  have := Row.flat h
  rwa [r64_len] at this
theorem r8Flat {W : World} {v : Value} {l : List Int} (h : R8 W v l) : Flat W v l.length (r8 l) := by
  have := Row.flat h
  rwa [r8_len] at this
theorem r64_one (l : List Int) : ∀ u ∈ r64 l, u.oneCell' = true := fun u hu => by
  obtain ⟨z, _, rfl⟩ := List.mem_map.1 hu
  rfl
theorem apart_of {w w' : World} {b1 b2 s1 s2 n m : Nat} {e1 e2 : TypeId} {v u : Value} {xs ys : List Value} (h : w.ownsRow b1 e1 s1 v n xs) (h2 : w'.ownsRow b2 e2 s2 u m ys) (hb : w.heap.size ≤ b2) : Apart v u := fun k h1 h3 => by
  have hk := own_lt h h1
  rcases h2.2 with ⟨rfl, _⟩ | ⟨g, cap, cur, rfl, hb2, _⟩
  · simp [Value.ownBlock] at h3
  · have : g = k := by simpa [Value.ownBlock] using h3
    omega
section
variable {P : Program} {ops : Array Oper} {Q : Exit → Act → World → Prop} {a : Act} {w : World} {rest : List Oper} {o : Oper}
theorem wpList_app0 {T E : TypeId} {size bytes : Nat} (hE : Elm P T E size bytes) (hg : o.guard = none) (s x : Operand) (ho : o.op = .call { callee := .builtin .append, args := #[s, x], argTypes := #[T, T] }) {base m g0 c0 : Nat} {v2 : Value} (hs : a.eval s = .slice (some ⟨g0, 0, none⟩) 0 c0) (hx : a.eval x = v2)
    (ys : List Value) (hO : w.ownsRow base E size (.slice (some ⟨g0, 0, none⟩) 0 c0) 0 []) (hR : Flat w v2 m ys) (hys : ys.length = m * size) (h1 : ∀ u ∈ ys, u.oneCell' = true) (hb : base ≤ w.heap.size) (hlen : m ≤ 4194304)
    (h : ∀ g c w', w'.ownsRow base E size (.slice (some ⟨g, 0, none⟩) m c) m ys → Below base w w' → wpList P ops Q rest (a.put o.dst (.slice (some ⟨g, 0, none⟩) m c)) w') : wpList P ops Q (o :: rest) a w :=
  wpList_appS hE hg s x ho hs hx [] ys hO hR hys h1 hb (by omega) (by simpa only [Nat.zero_add, List.nil_append] using h)
end
section
variable {P : Program} {ops : Array Oper} {Q : Exit → Act → World → Prop} {a : Act} {w : World} {rest : List Oper}
/-- to stop a walk ahead of an operation -/
theorem selO (o : Oper) (h : wpList P ops Q (o :: rest) a w) : wpList P ops Q (o :: rest) a w := h
end
theorem shR_at {n : Int} {qs : List Int} {k : Nat} {q : Int} (hk : 0 < k) (h : qs[k]? = some q) : (shR n qs)[k]? = some (q + (n + 1)) := by
  cases qs with
  | nil => simp at h
  | cons a t =>
    obtain ⟨j, rfl⟩ : ∃ j, k = j + 1 := ⟨k - 1, by omega⟩
    have h2 : t[j]? = some q := by simpa using h
    simp [shR, h2]
theorem shR_zero {n : Int} {qs : List Int} (h : 0 < qs.length) : (shR n qs)[0]? = some n := by
  cases qs with
  | nil => simp at h
  | cons a t => rfl
theorem shR_len (n : Int) (qs : List Int) : (shR n qs).length = qs.length := by cases qs <;> simp [shR]
theorem set_node (c : Cr) (z : Int) : (chA c).setIfInBounds 1 (.int .i64 z) = chA { c with node := z } := rfl
end Go.Proofs.Ytnoenccpbbkdeaa
