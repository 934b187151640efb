/- Appends of a style to a row of the call's own; a row of the call's own that reads as a list of structs. No walk. -/
import Derived.Test.YtejcfhfmdijimaaDoorYS
namespace Go.Proofs.YtejcfhfmdijimaaDoor
open Go.ChangeShapes Go.WideShapes Go.ChangeAt Go.RowKit

theorem flat_get (k : Nat) : ∀ (rows : List (List Value)), (∀ x ∈ rows, x.length = k) → ∀ (i : Nat) (x : List Value), rows[i]? = some x → ∀ (j : Nat) (u : Value), x[j]? = some u → rows.flatten[i * k + j]? = some u
  | [], _, i, x, hx, _, _, _ => by simp at hx
  | r :: rows, hk, i, x, hx, j, u, hu => by
    have hr := hk r (List.mem_cons_self ..)
    rw [List.flatten_cons]
    cases i with
    | zero =>
      rw [List.getElem?_cons_zero] at hx
      injection hx with hx
      subst hx
      have hj : j < r.length := (List.getElem?_eq_some_iff.1 hu).1
      rw [Nat.zero_mul, Nat.zero_add, List.getElem?_append_left hj]
      exact hu
    | succ i =>
      rw [List.getElem?_cons_succ] at hx
      rw [List.getElem?_append_right (by rw [hr, Nat.succ_mul]; omega), hr, show (i + 1) * k + j - k = i * k + j by rw [Nat.succ_mul]; omega]
      exact flat_get k rows (fun x hx => hk x (List.mem_cons_of_mem _ hx)) i x hx j u hu
theorem RowN.of_own {w : World} {base : Nat} {e : TypeId} {k n : Nat} {v : Value} {xs : List Value} {rows : List (List Value)} (h : w.ownsRow base e k v n xs) (hx : rows.flatten = xs) (hn : rows.length = n) (hk : ∀ x ∈ rows, x.length = k) : RowN k (fun b => b < base) w v rows := by
  subst hx hn
  rcases h.2 with ⟨rfl, h0⟩ | ⟨g, cap, cur, rfl, hb, hg, rest⟩
  · exact .inl ⟨rfl, List.length_eq_zero_iff.1 h0⟩
  · refine .inr ⟨⟨g, 0, none⟩, cap, rfl, .inr ⟨(Array.getElem?_eq_some_iff.1 hg).1, by show ¬ g < base; omega⟩, fun i x hx j u hu => ?_⟩
    exact World.ownsRow.cells h (g := g) rfl _ u (flat_get k rows hk i x hx j u hu)

/-- styles as cells, one after the other -/
def flatS (l : List Sty) : List Value := (l.map fun s => s.cells.toList).flatten
theorem flatS_snoc (l : List Sty) (s : Sty) : flatS (l ++ [s]) = flatS l ++ s.cells.toList := by simp [flatS]
theorem own_ss {w : World} {base n : Nat} {v : Value} {l : List Sty} (h : w.ownsRow base 33 9 v n (flatS l)) (hn : l.length = n) : Ss w v l := by
  have h2 : RowN 9 (fun b => b < base) w v (l.map fun s => s.cells.toList) := RowN.of_own h rfl (by rw [List.length_map]; exact hn) (fun x hx => by
    obtain ⟨s, _, rfl⟩ := List.mem_map.1 hx
    rfl)
  exact RowN.mono (T := fun _ => False) h2 fun _ _ h => h.elim

theorem bsS (s : Sty) (w : World) : (Instr.buildSlice 23 1 #[(0, .agg s.cells)]).run Tryd.prog w = .ok (.slice (some ⟨w.heap.size, 0, none⟩) 1 1) (w.alloc (.cells s.cells 33)) := by kernel_rfl
theorem below_grown {B : Nat} {w w' : World} {r : Option Nat} (h : w.grownBy w' r) (hB : B ≤ w.heap.size) (hr : ∀ g, r = some g → B ≤ g) : Below B w w' :=
  ⟨h.os, h.tape, h.output, h.size, fun k hk => h.block k (by omega) (fun e => by have := hr k e.symm; omega)⟩

/-- out = append(out, s) -/
theorem apS {ops : Array Oper} {Q : Exit → Act → World → Prop} {a : Act} {w : World} {rest : List Oper} {o1 o2 : Oper} (hg1 : o1.guard = none) (x : Operand) (ho1 : o1.op = .buildSlice 23 1 #[(0, x)]) (D : Tmp) (hd1 : o1.dst = some D)
    (hg2 : o2.guard = none) (sl : Operand) (ho2 : o2.op = .call { callee := .builtin .append, args := #[sl, .tmp D], argTypes := #[23, 23] }) (s : Sty) (hx : a.eval x = .agg s.cells)
    (v : Value) (hs : ∀ u, (a.put (some D) u).eval sl = v) (hD : ∀ u, (a.put (some D) u).eval (.tmp D) = u) (base n : Nat) (xs : List Value) (hown : w.ownsRow base 33 9 v n xs) (hn : n < 1000) (hbase : base ≤ w.heap.size)
    (h : ∀ u v' w', w'.ownsRow base 33 9 v' (n + 1) (xs ++ s.cells.toList) → Below base w w' → wpList Tryd.prog ops Q rest ((a.put (some D) u).put o2.dst v') w') : wpList Tryd.prog ops Q (o1 :: o2 :: rest) a w := by
  refine wpList_valIf (wanted_none hg1 _) _ hd1 (.slice (some ⟨w.heap.size, 0, none⟩) 1 1) (w.alloc (.cells s.cells 33)) ?_ ?_
  · unfold execOp
    simp only [ho1, List.map_toArray, List.map_cons, List.map_nil, hx, Sem.run_bind, bsS, Sem.run_pure, Result.andThen_ok]
  · obtain ⟨i0, hi, hz0, hz1, hz2⟩ := info_agg infoS
    have B0 := Blk.new w 33 s.cells
    refine wpList_append_own _ hg2 sl (.tmp D) 23 ho2 base 33 i0 (.agg Sty.zero.cells) 9 48 Tryd.underlying23 hi hz0 hz1 hz2 rfl (by decide) v n xs (hs _) (hown.alloc _) ⟨w.heap.size, 0, none⟩ 1 1 s.cells.toList (hD _) rfl (fun j u hu => B0.lies j u (by simpa using hu)) (fun u hu => (Array.all_eq_true_iff_forall_mem.1 (one23 s)) u (by simpa using hu)) (by unfold maxLen; omega) (by omega) (by simp; omega) ?_
    intro v' w' h1 h2 h3
    refine h _ v' w' h1 (((below_alloc w _).mono hbase).trans (below_grown h2 (by simp; omega) (fun g hg => ?_)))
    rcases hown.2 with ⟨rfl, _⟩ | ⟨g', cap, cur, rfl, hb, _⟩
    · simp [Value.ownBlock] at hg
    · have e : g' = g := by simpa [Value.ownBlock] using hg
      omega
end Go.Proofs.YtejcfhfmdijimaaDoor
