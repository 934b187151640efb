/- 'out = append(out, x)' for rows of cells and of bytes of the call's own, as arms of a walk. No walk. -/
import Derived.Test.YtddihpiheopleaaClB
import Derived.Test.YtddihpiheopleaaRwI
import Derived.Test.YtddihpiheopleaaApGen
import Derived.RangeFuncBox
namespace Go.Proofs.Ytddihpiheopleaa.Ce
open Go.ChangeShapes Go.WideShapes Go.ChangeAt Go.RowKit

section
variable {ops : Array Oper} {Q : Exit → Act → World → Prop} {a : Act} {W : World} {rest : List Oper} {o1 o2 : Oper}
theorem apCl (hg1 : o1.guard = none) (x : Operand) (ho1 : o1.op = .buildSlice 22 1 #[(0, x)]) (D : Tmp) (hd1 : o1.dst = some D)
    (hg2 : o2.guard = none) (sl : Operand) (ho2 : o2.op = .call { callee := .builtin .append, args := #[sl, .tmp D], argTypes := #[22, 22] }) (s : Cl) (hx : a.eval x = .agg (clA s))
    (v : Value) (hs : ∀ u, (a.put (some D) u).eval sl = v) (hD : ∀ u, (a.put (some D) u).eval (.tmp D) = u) (base : Nat) (l : List Cl) (hO : OwCl base W v l) (hn : l.length < 4194304) (hb : base ≤ W.heap.size)
    (h : ∀ u A8 n8 c8 w', OwCl base w' (.slice A8 n8 c8) (l ++ [s]) → Below base W w' → Mod (fun k => v.ownBlock = some k) W w' → (∀ k, (Value.slice A8 n8 c8).ownBlock = some k → v.ownBlock = some k ∨ W.heap.size ≤ k) → wpList Try.prog ops Q rest ((a.put (some D) u).put o2.dst (.slice A8 n8 c8)) w') : wpList Try.prog ops Q (o1 :: o2 :: rest) a W :=
  apH elhCl hg1 x ho1 D hd1 hg2 sl ho2 (.agg (clA s)) (clA s) hx rfl (oneCl s) (bsCl s) v hs hD base l.length (flatCl l) hO hn hb fun u v' w' o1 b1 m1 k1 => by
    obtain ⟨g8, c8, rfl⟩ := ownsRow_succ o1
    refine h u _ _ _ w' ?_ b1 m1 k1
    show w'.ownsRow _ _ _ _ (l ++ [s]).length _
    rw [flatCl_snoc, List.length_append]
    exact o1
theorem flatCl_len : ∀ l : List Cl, (flatCl l).length = l.length * 6
  | [] => rfl
  | c :: l => by
    have := flatCl_len l
    simp only [flatCl, List.map_cons, List.flatten_cons, List.length_append, List.length_cons] at *
    rw [this, Nat.add_mul, Nat.one_mul, Nat.add_comm]
    rfl
theorem flatCl_one (l : List Cl) : ∀ u ∈ flatCl l, u.oneCell' = true := fun u hu => by
  obtain ⟨x, hx, hu⟩ := List.mem_flatten.1 hu
  obtain ⟨s, _, rfl⟩ := List.mem_map.1 hx
  exact (Array.all_eq_true_iff_forall_mem.1 (oneCl s)) u (by simpa using hu)
theorem flatCl_app (l m : List Cl) : flatCl (l ++ m) = flatCl l ++ flatCl m := by simp [flatCl]
theorem RwCl.flat {w : World} {v : Value} {l : List Cl} (h : RwCl w v l) : Flat w v l.length (flatCl l) := by
  have := RowN.flat (show RowN 6 (fun _ => False) w v _ from h) (fun x hx => by obtain ⟨s, _, rfl⟩ := List.mem_map.1 hx; rfl)
  rwa [List.length_map] at this
/-- out = append(v, v2...), cells -/
theorem apCls {o : Oper} (hg : o.guard = none) (s x : Operand) (ho : o.op = .call { callee := .builtin .append, args := #[s, x], argTypes := #[22, 22] }) (v v2 : Value) (hs : a.eval s = v) (hx : a.eval x = v2)
    (base : Nat) (l l2 : List Cl) (hO : OwCl base W v l) (hR : RwCl W v2 l2) (hb : base ≤ W.heap.size) (hlen : l.length + l2.length ≤ 4194304)
    (h : ∀ v' w', OwCl base w' v' (l ++ l2) → Below base W w' → wpList Try.prog ops Q rest (a.put o.dst v') w') : wpList Try.prog ops Q (o :: rest) a W :=
  wpList_app elhCl hg s x ho v v2 hs hx base l.length l2.length (flatCl l) (flatCl l2) hO hR.flat (flatCl_len l2) (flatCl_one l2) hb hlen fun v' w' h1 h2 => h v' w' (by
    show w'.ownsRow _ _ _ _ (l ++ l2).length _
    rw [flatCl_app, List.length_append]
    exact h1) h2
/-- to stop a walk ahead of an operation -/
theorem selO (o : Oper) {P : Program} (h : wpList P ops Q (o :: rest) a W) : wpList P ops Q (o :: rest) a W := h
theorem OwCl.lit0 {base g : Nat} {w : World} (hB : Blk w g 35 #[]) (hb : base ≤ g) : OwCl base w (.slice (some ⟨g, 0, none⟩) 0 0) [] := own_lit0 hB hb
theorem elhB : Elh Try.prog 30 5 1 1 := ⟨Try.underlying30, ⟨.int .u8 0, by kernel_rfl, rfl⟩, by decide, by decide⟩
/-- a row of bytes of the call's own -/
def OwB (base : Nat) (w : World) (v : Value) (l : List Int) : Prop := w.ownsRow base 5 1 v l.length (l.map (Value.int .u8))
theorem OwB.row {base : Nat} {w : World} {v : Value} {l : List Int} (h : OwB base w v l) : RowI .u8 w v l := RowI.of_own h
theorem OwB.nil_ (base : Nat) (w : World) : OwB base w (.slice none 0 0) [] := own_nil w base 1 5
theorem OwB.below {base : Nat} {w w' : World} {v : Value} {l : List Int} (h : OwB base w v l) (b : Below w.heap.size w w') : OwB base w' v l := own_below h b
theorem OwCl.below {base : Nat} {w w' : World} {v : Value} {l : List Cl} (h : OwCl base w v l) (b : Below w.heap.size w w') : OwCl base w' v l := own_below h b
theorem OwCl.nil_ (base : Nat) (w : World) : OwCl base w (.slice none 0 0) [] := own_nil w base 6 35
theorem apB (hg1 : o1.guard = none) (x : Operand) (ho1 : o1.op = .buildSlice 30 1 #[(0, x)]) (D : Tmp) (hd1 : o1.dst = some D)
    (hg2 : o2.guard = none) (sl : Operand) (ho2 : o2.op = .call { callee := .builtin .append, args := #[sl, .tmp D], argTypes := #[30, 30] }) (s : Int) (hx : a.eval x = .int .u8 s)
    (v : Value) (hs : ∀ u, (a.put (some D) u).eval sl = v) (hD : ∀ u, (a.put (some D) u).eval (.tmp D) = u) (base : Nat) (l : List Int) (hO : OwB base W v l) (hn : l.length < 4194304) (hb : base ≤ W.heap.size)
    (h : ∀ u A8 n8 c8 w', OwB base w' (.slice A8 n8 c8) (l ++ [s]) → Below base W w' → Mod (fun k => v.ownBlock = some k) W w' → (∀ k, (Value.slice A8 n8 c8).ownBlock = some k → v.ownBlock = some k ∨ W.heap.size ≤ k) → wpList Try.prog ops Q rest ((a.put (some D) u).put o2.dst (.slice A8 n8 c8)) w') : wpList Try.prog ops Q (o1 :: o2 :: rest) a W :=
  apH elhB hg1 x ho1 D hd1 hg2 sl ho2 (.int .u8 s) #[.int .u8 s] hx rfl (by simp [Value.oneCell']) (fun w => by kernel_rfl) v hs hD base l.length (l.map (Value.int .u8)) hO hn hb fun u v' w' o1 b1 m1 k1 => by
    obtain ⟨g8, c8, rfl⟩ := ownsRow_succ o1
    refine h u _ _ _ w' ?_ b1 m1 k1
    show w'.ownsRow _ _ _ _ (l ++ [s]).length _
    rw [List.map_append, List.length_append]
    exact o1
end
end Go.Proofs.Ytddihpiheopleaa.Ce
