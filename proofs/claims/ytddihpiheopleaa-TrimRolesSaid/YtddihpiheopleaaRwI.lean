/- Slices of integers of any kind, read as lists. For any layer. No walk. -/
import Derived.Test.YtddihpiheopleaaRowF
import Derived.Test.YtddihpiheopleaaApH
namespace Go.Proofs.Ytddihpiheopleaa
open Go.ChangeShapes Go.WideShapes Go.ChangeAt Go.RowKit

theorem tup2_inj {a b c d : Value} (h : Value.tuple #[a, b] = .tuple #[c, d]) : a = c ∧ b = d := by
  injection h with h
  have := congrArg Array.toList h
  simpa using this
/-- v is a slice of integers of kind k that reads as l -/
def RowI (k : IntKind) (w : World) (v : Value) (l : List Int) : Prop := Row (fun _ => False) w v (l.map (Value.int k))
section
variable {k : IntKind} {w w' : World} {v : Value} {l : List Int}
theorem RowI.below (h : RowI k w v l) (b : Below w.heap.size w w') : RowI k w' v l := Row.below h b
theorem RowI.keep {T : Nat → Prop} (h : RowI k w v l) (m : Mod T w w') (hT : ∀ a n c, v = .slice (some a) n c → ¬ T a.block) : RowI k w' v l := by
  rcases h with h | ⟨a, cap, rfl, hb, hc⟩
  · exact .inl h
  · refine .inr ⟨a, cap, rfl, ?_, fun j u hu => ?_⟩
    · rcases hb with hb | ⟨hb, hS⟩
      · exact .inl hb
      · exact .inr ⟨Nat.lt_of_lt_of_le hb m.size, hS⟩
    · rcases hb with hb | ⟨hb, hS⟩
      · rw [hb] at hu
        simp at hu
      · rw [m.cell (by rw [block_of_add]; exact hb) (by rw [block_of_add]; exact hT a _ _ rfl)]
        exact hc j u hu
theorem RowI.form (h : RowI k w v l) : ∃ A c, v = .slice A l.length c := by
  have := Row.form h
  rwa [List.length_map] at this
theorem RowI.get (h : RowI k w v l) {i : Nat} {x : Int} (hi : l[i]? = some x) : ∃ a cap, v = .slice (some a) l.length cap ∧ w.cell? (a.add i) = some (.int k x) := by
  have hl : i < l.length := (List.getElem?_eq_some_iff.1 hi).1
  obtain ⟨a, cap, hv, _, _, hc⟩ := Row.at_ h (by rw [List.length_map]; omega)
  rw [List.length_map] at hv
  exact ⟨a, cap, hv, hc i _ (by rw [List.getElem?_map, hi]; rfl)⟩
theorem RowI.nil_ : RowI k w (.slice none 0 0) [] := .inl ⟨rfl, rfl⟩
theorem RowI.of_own {base n : Nat} {e : TypeId} (h : w.ownsRow base e 1 v n (l.map (Value.int k))) : RowI k w v l := (Row.of_own h).mono fun _ _ h => h.elim
theorem RowI.of_arg {S : Nat → Prop} (h : Row S w v (l.map (Value.int k))) : RowI k w v l := h.mono fun _ _ h => h.elim
theorem RowI.take {a : Addr} {n cap m : Nat} (h : RowI k w (.slice (some a) n cap) l) (hm : m ≤ l.length) : RowI k w (.slice (some a) m cap) (l.take m) := by
  have := Row.take h (k := m) (by rw [List.length_map]; exact hm)
  rw [← List.map_take] at this
  exact this
theorem RowI.drop {a : Addr} {n cap m d c : Nat} (h : RowI k w (.slice (some a) n cap) l) (hm : m = l.length - d) : RowI k w (.slice (some (a.add d)) m c) (l.drop d) := by
  have := Row.drop (c := c) h (k := d) (m := m) (by rw [List.length_map]; exact hm)
  rw [← List.map_drop] at this
  exact this
theorem RowI.hi {A : Option Addr} {n cap m : Nat} (h : RowI k w (.slice A n cap) l) (hm : m ≤ l.length) : RowI k w (.slice A m cap) (l.take m) := by
  have := Row.hi h (m := m) (by rw [List.length_map]; exact hm)
  rw [← List.map_take] at this
  exact this
theorem RowI.lo {A : Option Addr} {n cap m : Nat} (h : RowI k w (.slice A n cap) l) (hm : m ≤ n) (hc : n ≤ cap) : RowI k w (loV 1 A n cap m) (l.drop m) := by
  have := Row.lo h hm hc
  rw [← List.map_drop] at this
  exact this
theorem RowI.lit (w : World) (l : List Int) (t : TypeId) (n : Nat) (cs : Array Value) (hn : l.length = n) (hc : cs = (l.map (Value.int k)).toArray) : RowI k (w.alloc (.cells cs t)) (.slice (some ⟨w.heap.size, 0, none⟩) n n) l := by
  subst hc hn
  have B := Blk.new w t (l.map (Value.int k)).toArray
  refine .inr ⟨⟨w.heap.size, 0, none⟩, l.length, by rw [List.length_map], .inr ⟨B.lt, id⟩, fun j u hj => ?_⟩
  have e : (⟨w.heap.size, 0, none⟩ : Addr).add j = ⟨w.heap.size, j, none⟩ := by simp [Addr.add]; exact fun h => h.symm
  rw [e, B.cell j]
  simpa using hj
end
end Go.Proofs.Ytddihpiheopleaa
