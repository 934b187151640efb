/- 'out = append(out, x)' onto a row of the call's own, for an element of any kind of cells; outside a round (XApG on less). For any layer. No walk. -/
import Derived.Test.YtddihpiheopleaaYRows
import Derived.Maps.AppendAt
import Derived.OwnWalkIn
namespace Go.Proofs.Ytddihpiheopleaa
open Go.ChangeShapes Go.WideShapes Go.ChangeAt Go.RowKit

theorem info_of {P : Program} {t : TypeId} {z : Value} {s b : Nat} (h : (P.info? t).map (fun i => (i.zero, i.size, i.bytes)) = some (some z, s, b)) : ∃ i, P.info? t = some i ∧ i.zero = some z ∧ i.size = s ∧ i.bytes = b := by
  cases hq : P.info? t with
  | none => rw [hq] at h; cases h
  | some i =>
    rw [hq] at h
    injection h with h
    injection h with h1 h2
    injection h2 with h2 h3
    exact ⟨i, rfl, h1, h2, h3⟩
theorem below_grew {B : Nat} {w w' : World} {r : Option Nat} (h : w.grownBy w' r) (hB : B ≤ w.heap.size) (hr : ∀ g, r = some g → B ≤ g) : Below B w w' :=
  (Mod.grown (S := fun k => r = some k) (Mod.refl _ _) h (fun _ e => .inl e)).below hB hr
/-- how an element's type is laid -/
structure Elh (P : Program) (T E : TypeId) (size bytes : Nat) : Prop where
  und : P.underlying T = some (.slice E)
  info : ∃ z : Value, ((P.info? E).map (fun i => (i.zero, i.size, i.bytes)) = some (some z, size, bytes)) ∧ z.cells.size = size
  pos : 0 < size
  small : bytes ≤ 1024

theorem apH {P : Program} {T E : TypeId} {size bytes : Nat} (hE : Elh P T E size bytes) {ops : Array Oper} {Q : Exit → Act → World → Prop} {a : Act} {w : World} {rest : List Oper} {o1 o2 : Oper} (hg1 : o1.guard = none) (x : Operand) (ho1 : o1.op = .buildSlice T 1 #[(0, x)]) (D : Tmp) (hd1 : o1.dst = some D)
    (hg2 : o2.guard = none) (sl : Operand) (ho2 : o2.op = .call { callee := .builtin .append, args := #[sl, .tmp D], argTypes := #[T, T] }) (val : Value) (cs : Array Value) (hx : a.eval x = val) (hcs : cs.size = size) (h1 : cs.all (·.oneCell') = true)
    (hbs : ∀ w, (Instr.buildSlice T 1 #[(0, val)]).run P w = .ok (.slice (some ⟨w.heap.size, 0, none⟩) 1 1) (w.alloc (.cells cs E)))
    (v : Value) (hs : ∀ u, (a.put (some D) u).eval sl = v) (hD : ∀ u, (a.put (some D) u).eval (.tmp D) = u) (base n : Nat) (xs : List Value) (hown : w.ownsRow base E size v n xs) (hn : n < 4194304) (hbase : base ≤ w.heap.size)
    (h : ∀ u v' w', w'.ownsRow base E size v' (n + 1) (xs ++ cs.toList) → Below base w w' → Mod (fun k => v.ownBlock = some k) w w' → (∀ k, v'.ownBlock = some k → v.ownBlock = some k ∨ w.heap.size ≤ k) → wpList P ops Q rest ((a.put (some D) u).put o2.dst v') w') : wpList P ops Q (o1 :: o2 :: rest) a w := by
  obtain ⟨z, hi0, hzc⟩ := hE.info
  obtain ⟨i0, hi, hz0, hz1, hz2⟩ := info_of hi0
  have hsm := hE.small
  refine wpList_valIf (wanted_none hg1 _) _ hd1 (.slice (some ⟨w.heap.size, 0, none⟩) 1 1) (w.alloc (.cells cs E)) ?_ ?_
  · unfold execOp
    simp only [ho1, List.map_toArray, List.map_cons, List.map_nil, hx, Sem.run_bind, hbs, Sem.run_pure, Result.andThen_ok]
  · have B0 := Blk.new w E cs
    refine wpList_append_own_at _ hg2 sl (.tmp D) T ho2 base E i0 z size bytes hE.und hi hz0 hz1 hz2 hzc hE.pos v n xs (hs _) (hown.alloc _) ⟨w.heap.size, 0, none⟩ 1 1 cs.toList (hD _) (by rw [Array.length_toList, hcs, Nat.one_mul]) (fun j u hu => B0.lies j u (by simpa using hu)) (fun u hu => (Array.all_eq_true_iff_forall_mem.1 h1) u (by simpa using hu)) (by unfold maxLen; omega) (Nat.le_trans (Nat.mul_le_mul (show n + 1 ≤ 4194304 by omega) hsm) (by omega)) (by simp; omega) ?_
    intro v' w' h1 h2 h3 h5
    have hblk : ∀ g, v.ownBlock = some g → base ≤ g := fun g hg => by
      rcases hown.2 with ⟨rfl, _⟩ | ⟨g', cap, cur, rfl, hb, _⟩
      · simp [Value.ownBlock] at hg
      · have e : g' = g := by simpa [Value.ownBlock] using hg
        omega
    refine h _ v' w' h1 (((below_alloc w _).mono hbase).trans (below_grew h2 (by simp; omega) hblk)) (((Mod.refl _ w).alloc _).grown h2 fun k e => .inl e) fun k hk => ?_
    rcases h5 with e | e
    · exact .inl (e ▸ hk)
    · rw [e] at hk
      injection hk with hk
      exact .inr (by rw [← hk]; simp)

/-- a row of the call's own, kept -/
theorem own_below {w w' : World} {base size : Nat} {e : TypeId} {v : Value} {n : Nat} {xs : List Value} (h : w.ownsRow base e size v n xs) (b : Below w.heap.size w w') : w'.ownsRow base e size v n xs :=
  own_keep h (S := fun _ => False) (Mod.of_below b) (fun _ _ => id)
theorem own_nil (w : World) (base size : Nat) (e : TypeId) : w.ownsRow base e size (.slice none 0 0) 0 [] := ⟨by simp, .inl ⟨rfl, rfl⟩⟩
/-- two rows of the call's own that lie apart -/
def Apart (v u : Value) : Prop := ∀ k, v.ownBlock = some k → ¬ u.ownBlock = some k
theorem Apart.nil (u : Value) : Apart (.slice none 0 0) u := fun k h => by simp [Value.ownBlock] at h
theorem Apart.symm {v u : Value} (h : Apart v u) : Apart u v := fun k h1 h2 => h k h2 h1
theorem own_lt {w : World} {base size : Nat} {e : TypeId} {v : Value} {n : Nat} {xs : List Value} (h : w.ownsRow base e size v n xs) {k : Nat} (hk : v.ownBlock = some k) : k < w.heap.size := by
  rcases h.2 with ⟨rfl, _⟩ | ⟨g, cap, cur, rfl, _, hg, _⟩
  · simp [Value.ownBlock] at hk
  · obtain rfl : g = k := by simpa [Value.ownBlock] using hk
    exact (Array.getElem?_eq_some_iff.1 hg).1
theorem Apart.step {w : World} {base size : Nat} {e : TypeId} {v v' u : Value} {n : Nat} {xs : List Value} (h : Apart u v) (hu : w.ownsRow base e size u n xs) (hv : ∀ k, v'.ownBlock = some k → v.ownBlock = some k ∨ w.heap.size ≤ k) : Apart u v' := fun k h1 h2 => by
  rcases hv k h2 with e | e
  · exact h k h1 e
  · have := own_lt hu h1
    omega
theorem Apart.keep {w w' : World} {base size : Nat} {e : TypeId} {v u : Value} {n : Nat} {xs : List Value} (h : Apart u v) (hu : w.ownsRow base e size u n xs) (m : Mod (fun k => v.ownBlock = some k) w w') : w'.ownsRow base e size u n xs := own_keep hu m h
end Go.Proofs.Ytddihpiheopleaa
