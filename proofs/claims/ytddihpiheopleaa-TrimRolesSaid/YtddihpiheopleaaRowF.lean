/- Rows of structs, laid one after the other. For any layer. No walk. -/
import Derived.Test.YtddihpiheopleaaYRows
namespace Go.Proofs.Ytddihpiheopleaa
open Go.ChangeShapes Go.WideShapes Go.ChangeAt Go.RowKit Go.Deep

theorem lies_of {w : World} {p : Addr} {cs : Array Value} {g o : Nat} (hp : p = ⟨g, o, none⟩) (h : ∀ j u, cs.toList[j]? = some u → w.cell? ⟨g, o + j, none⟩ = some u) : Lies w p cs := by
  subst hp
  intro j v hv
  have : (⟨g, o, none⟩ : Addr).add j = ⟨g, o + j, none⟩ := by unfold Addr.add; split <;> simp_all
  rw [this]
  exact h j v (by simpa using hv)
theorem flat_get (k : Nat) : ∀ (rows : List (List Value)), (∀ x ∈ rows, x.length = k) → ∀ (i : Nat) (x : List Value), rows[i]? = some x → ∀ (j : Nat) (u : Value), x[j]? = some u → rows.flatten[i * k + j]? = some u
  | [], _, i, x, hx, _, _, _ => by simp at hx
  | r :: rows, hk, i, x, hx, j, u, hu => by
    have hr := hk r (List.mem_cons_self ..)
    rw [List.flatten_cons]
    cases i with
    | zero =>
      rw [List.getElem?_cons_zero] at hx
      injection hx with hx
      subst hx
      have hj : j < r.length := (List.getElem?_eq_some_iff.1 hu).1
      rw [Nat.zero_mul, Nat.zero_add, List.getElem?_append_left hj]
      exact hu
    | succ i =>
      rw [List.getElem?_cons_succ] at hx
      rw [List.getElem?_append_right (by rw [hr, Nat.succ_mul]; omega), hr, show (i + 1) * k + j - k = i * k + j by rw [Nat.succ_mul]; omega]
      exact flat_get k rows (fun x hx => hk x (List.mem_cons_of_mem _ hx)) i x hx j u hu
theorem RowN.of_own {w : World} {base : Nat} {e : TypeId} {k n : Nat} {v : Value} {xs : List Value} {rows : List (List Value)} (h : w.ownsRow base e k v n xs) (hx : rows.flatten = xs) (hn : rows.length = n) (hk : ∀ x ∈ rows, x.length = k) : RowN k (fun b => b < base) w v rows := by
  subst hx hn
  rcases h.2 with ⟨rfl, h0⟩ | ⟨g, cap, cur, rfl, hb, hg, rest⟩
  · exact .inl ⟨rfl, List.length_eq_zero_iff.1 h0⟩
  · refine .inr ⟨⟨g, 0, none⟩, cap, rfl, .inr ⟨(Array.getElem?_eq_some_iff.1 hg).1, by show ¬ g < base; omega⟩, fun i x hx j u hu => ?_⟩
    exact World.ownsRow.cells h (g := g) rfl _ u (flat_get k rows hk i x hx j u hu)

theorem blk_rowN {w : World} {g n c k : Nat} {t : TypeId} {cs : Array Value} {rows : List (List Value)} (h : Blk w g t cs) (hk : ∀ x ∈ rows, x.length = k) (hx : cs.toList = rows.flatten) (hn : rows.length = n) : RowN k (fun _ => False) w (.slice (some ⟨g, 0, none⟩) n c) rows := by
  subst hn
  refine .inr ⟨_, c, rfl, .inr ⟨h.lt, id⟩, fun i x hi j u hu => h.lies _ u ?_⟩
  have := flat_get k _ hk i x hi j u hu
  rw [← hx] at this
  simpa using this
theorem RowN.take {k : Nat} {S : Nat → Prop} {w : World} {a : Addr} {n cap m : Nat} {xs : List (List Value)} (h : RowN k S w (.slice (some a) n cap) xs) (hm : m ≤ xs.length) : RowN k S w (.slice (some a) m cap) (xs.take m) := by
  rcases h with ⟨h, _⟩ | ⟨a', cap', hv, hb, hc⟩
  · cases h
  · injection hv with h1 h2 h3
    injection h1 with h1
    subst h1 h3
    refine .inr ⟨_, _, by rw [List.length_take, Nat.min_eq_left hm], ?_, fun i x hx => ?_⟩
    · rcases hb with rfl | hb
      · exact .inl (by simp)
      · exact .inr hb
    · rw [List.getElem?_take] at hx
      split at hx
      · exact hc i x hx
      · cases hx
theorem RowN.drop {k : Nat} {S : Nat → Prop} {w : World} {a : Addr} {n cap d c m : Nat} {xs : List (List Value)} (h : RowN k S w (.slice (some a) n cap) xs) (hm : m = xs.length - d) : RowN k S w (.slice (some (a.add (d * k))) m c) (xs.drop d) := by
  rcases h with ⟨h, _⟩ | ⟨a', cap', hv, hb, hc⟩
  · cases h
  · injection hv with h1 h2 h3
    injection h1 with h1
    subst h1 h3
    refine .inr ⟨_, _, by rw [List.length_drop, hm], ?_, fun i x hx j u hj => ?_⟩
    · rcases hb with rfl | hb
      · exact .inl (by simp)
      · exact .inr (by rw [block_of_add]; exact hb)
    · rw [List.getElem?_drop] at hx
      rw [add_add, ← Nat.add_assoc, ← Nat.add_mul]
      exact hc _ x hx j u hj
theorem flat_invW (k : Nat) : ∀ (rows : List (List Value)), (∀ x ∈ rows, x.length = k) → ∀ (j : Nat) (u : Value), rows.flatten[j]? = some u → ∃ i x j', rows[i]? = some x ∧ x[j']? = some u ∧ j = i * k + j'
  | [], _, j, u, h => by simp at h
  | r :: rows, hk, j, u, h => by
    have hr := hk r (List.mem_cons_self ..)
    rw [List.flatten_cons] at h
    by_cases hj : j < r.length
    · rw [List.getElem?_append_left hj] at h
      exact ⟨0, r, j, rfl, h, by simp⟩
    · rw [List.getElem?_append_right (by omega)] at h
      obtain ⟨i, x, j', h1, h2, h3⟩ := flat_invW k rows (fun x hx => hk x (List.mem_cons_of_mem _ hx)) _ u h
      exact ⟨i + 1, x, j', by simpa using h1, h2, by rw [Nat.succ_mul]; omega⟩
/-! ### parts of slices, as values -/
/-- no slice is longer than its memory -/
def CapV (v : Value) : Prop := ∀ A n c, v = .slice A n c → n ≤ c ∧ c ≤ maxLen
theorem CapV.is {A : Option Addr} {n c : Nat} (h : n ≤ c) (h2 : c ≤ maxLen) : CapV (.slice A n c) := fun _ _ _ e => by
  injection e with _ e1 e2
  subst e1 e2
  exact ⟨h, h2⟩
theorem CapV.own {w : World} {base size : Nat} {e : TypeId} {v : Value} {n : Nat} {xs : List Value} (h : w.ownsRow base e size v n xs) : CapV v := by
  rcases h.2 with ⟨rfl, _⟩ | ⟨g, cap, cur, rfl, _, _, h3, h4, _⟩
  · exact CapV.is (Nat.le_refl _) (Nat.zero_le _)
  · exact CapV.is h3 h4
/-- v[k:], of elements of s cells -/
def loV (s : Nat) (A : Option Addr) (n cap k : Nat) : Value := .slice (if cap = k then A else A.map fun x => x.add (k * s)) (n - k) (cap - k)
theorem CapV.lo {s : Nat} {A : Option Addr} {n cap k : Nat} (h : n ≤ cap) (h2 : cap ≤ maxLen) : CapV (loV s A n cap k) := CapV.is (by omega) (by omega)
theorem RowN.hi {k : Nat} {S : Nat → Prop} {w : World} {A : Option Addr} {n cap m : Nat} {xs : List (List Value)} (h : RowN k S w (.slice A n cap) xs) (hm : m ≤ xs.length) : RowN k S w (.slice A m cap) (xs.take m) := by
  cases A with
  | some a => exact h.take hm
  | none =>
    rcases h with ⟨h, rfl⟩ | ⟨a, c, h, _⟩
    · injection h with _ h1 h2
      obtain rfl : m = 0 := by simpa using hm
      subst h2
      exact .inl ⟨rfl, by simp⟩
    · injection h with h _; cases h
theorem RowN.lo {k : Nat} {S : Nat → Prop} {w : World} {A : Option Addr} {n cap m : Nat} {xs : List (List Value)} (h : RowN k S w (.slice A n cap) xs) (hm : m ≤ n) (hc : n ≤ cap) : RowN k S w (loV k A n cap m) (xs.drop m) := by
  have hn : xs.length = n := by
    obtain ⟨A', c', e⟩ := h.form
    injection e with _ e _
    exact e.symm
  unfold loV
  cases A with
  | some a =>
    by_cases hcm : cap = m
    · rw [if_pos hcm]
      have e : xs.drop m = [] := List.drop_eq_nil_of_le (by omega)
      rw [e, show n - m = 0 by omega]
      exact .inr ⟨a, _, rfl, .inl rfl, fun i x hx => by simp at hx⟩
    · rw [if_neg hcm]
      exact h.drop (by rw [hn])
  | none =>
    rcases h with ⟨h, rfl⟩ | ⟨a, c, h, _⟩
    · injection h with _ h1 h2
      subst h1 h2
      exact .inl ⟨by simp, by simp⟩
    · injection h with h _; cases h
theorem Row.hi {S : Nat → Prop} {w : World} {A : Option Addr} {n cap m : Nat} {xs : List Value} (h : Row S w (.slice A n cap) xs) (hm : m ≤ xs.length) : Row S w (.slice A m cap) (xs.take m) := by
  cases A with
  | some a => exact h.take hm
  | none =>
    rcases h with ⟨h, rfl⟩ | ⟨a, c, h, _⟩
    · injection h with _ h1 h2
      obtain rfl : m = 0 := by simpa using hm
      subst h2
      exact .inl ⟨rfl, by simp⟩
    · injection h with h _; cases h
theorem Row.lo {S : Nat → Prop} {w : World} {A : Option Addr} {n cap m : Nat} {xs : List Value} (h : Row S w (.slice A n cap) xs) (hm : m ≤ n) (hc : n ≤ cap) : Row S w (loV 1 A n cap m) (xs.drop m) := by
  have hn : xs.length = n := by
    obtain ⟨A', c', e⟩ := h.form
    injection e with _ e _
    exact e.symm
  unfold loV
  rw [Nat.mul_one]
  cases A with
  | some a =>
    by_cases hcm : cap = m
    · rw [if_pos hcm]
      have e : xs.drop m = [] := List.drop_eq_nil_of_le (by omega)
      rw [e, show n - m = 0 by omega]
      exact .inr ⟨a, _, rfl, .inl rfl, fun i x hx => by simp at hx⟩
    · rw [if_neg hcm]
      exact h.drop (by rw [hn])
  | none =>
    rcases h with ⟨h, rfl⟩ | ⟨a, c, h, _⟩
    · injection h with _ h1 h2
      subst h1 h2
      exact .inl ⟨by simp, by simp⟩
    · injection h with h _; cases h
end Go.Proofs.Ytddihpiheopleaa
