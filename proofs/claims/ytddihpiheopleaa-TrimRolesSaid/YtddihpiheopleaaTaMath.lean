/- Plain facts on pens: what a cell does to one, the pens of a row, with cells that are passed over. No walk. -/
import Derived.Test.YtddihpiheopleaaClB
import Derived.Test.YtddihpiheopleaaUnitA
namespace Go.Proofs.Ytddihpiheopleaa.Ta
open Ce (Cl)
open Fo (fitV fitE)

theorem fit_cases (s : Int) : (fitE s = 0 ∧ fitV s = s ∧ -4611686018427387904 ≤ s ∧ s ≤ 4611686018427387904) ∨ (fitE s = 10 ∧ fitV s = 0 ∧ (s < -4611686018427387904 ∨ 4611686018427387904 < s)) := by
  unfold fitV fitE
  by_cases h : -4611686018427387904 ≤ s ∧ s ≤ 4611686018427387904
  · rw [if_pos h, if_pos h]; exact .inl ⟨rfl, rfl, h⟩
  · rw [if_neg h, if_neg h]; exact .inr ⟨rfl, rfl, by omega⟩
theorem fit_ok {s : Int} (h1 : -4611686018427387904 ≤ s) (h2 : s ≤ 4611686018427387904) : fitV s = s ∧ fitE s = 0 := by
  rcases fit_cases s with h | h <;> simp_all <;> omega
/-- what makes a row one that is not valid -/
def wrongC (c : Cl) : Bool := decide (c.k = 4) && decide (c.adv < 0)
/-- the pen behind a cell, and its error -/
def stepV (c : Cl) (x : Int) : Int × Int :=
  if wrongC c = true then (0, 2)
  else if c.k = 4 then (if fitE x = 0 ∧ c.adv ≠ 0 then (fitV (x + c.adv - x % c.adv), fitE (x + c.adv - x % c.adv)) else (fitV x, fitE x))
  else (fitV (x + c.adv), fitE (x + c.adv))
theorem stepV_fit (c : Cl) (x : Int) : -4611686018427387904 ≤ (stepV c x).1 ∧ (stepV c x).1 ≤ 4611686018427387904 := by
  have key : ∀ s, -4611686018427387904 ≤ fitV s ∧ fitV s ≤ 4611686018427387904 := fun s => by rcases fit_cases s with h | h <;> rw [h.2.1] <;> omega
  unfold stepV
  split
  · simp
  · split
    · split <;> exact key _
    · exact key _
/-- which cells are passed over -/
def gone (rs : List Int) (i : Nat) : Bool := match rs[i]? with | some r => decide (r = 1) | none => false
theorem gone_nil : gone [] = fun _ => false := rfl
/-- the pens from p on, and the error -/
def pn (g : Nat → Bool) : List Cl → Nat → Int → List Int × Int
  | [], _, p => ([p], 0)
  | c :: r, i, p => if g i = true then (p :: (pn g r (i + 1) p).1, (pn g r (i + 1) p).2) else if (stepV c p).2 = 0 then (p :: (pn g r (i + 1) (stepV c p).1).1, (pn g r (i + 1) (stepV c p).1).2) else ([p], (stepV c p).2)
def pens (l : List Cl) (rs : List Int) (x : Int) : List Int × Int :=
  if l.any wrongC = true then ([], 2) else if fitE x = 0 then pn (gone rs) l 0 (fitV x) else ([], fitE x)
theorem pn_nil (g : Nat → Bool) (i : Nat) (p : Int) : pn g [] i p = ([p], 0) := rfl
theorem pn_gone {g : Nat → Bool} {c : Cl} {r : List Cl} {i : Nat} {p : Int} (h : g i = true) : pn g (c :: r) i p = (p :: (pn g r (i + 1) p).1, (pn g r (i + 1) p).2) := if_pos h
theorem pn_step {g : Nat → Bool} {c : Cl} {r : List Cl} {i : Nat} {p q : Int} (h : g i = false) (hs : stepV c p = (q, 0)) : pn g (c :: r) i p = (p :: (pn g r (i + 1) q).1, (pn g r (i + 1) q).2) := by
  show (if g i = true then _ else _) = _
  rw [if_neg (by simp [h]), hs, if_pos rfl]
theorem pn_stop {g : Nat → Bool} {c : Cl} {r : List Cl} {i : Nat} {p q e : Int} (h : g i = false) (hs : stepV c p = (q, e)) (he : e ≠ 0) : pn g (c :: r) i p = ([p], e) := by
  show (if g i = true then _ else _) = _
  rw [if_neg (by simp [h]), hs, if_neg he]
/-- the state of the loop ahead of the cell i: the pen, its error, the pens that are told -/
def At (g : Nat → Bool) (l : List Cl) (ys : List Int) (E : Int) (i : Nat) (p e : Int) (pre : List Int) : Prop :=
  (e = 0 ∧ -4611686018427387904 ≤ p ∧ p ≤ 4611686018427387904 ∧ ys = pre ++ (pn g (l.drop i) i p).1 ∧ E = (pn g (l.drop i) i p).2 ∧ pre.length = i) ∨ (e ≠ 0 ∧ ys = pre ∧ E = e ∧ pre.length ≤ i)
theorem At.end_ {g : Nat → Bool} {l : List Cl} {ys : List Int} {E : Int} {p : Int} {pre : List Int} (h : At g l ys E l.length p 0 pre) : ys = pre ++ [p] ∧ E = 0 := by
  rcases h with ⟨_, _, _, h1, h2, _⟩ | ⟨h, _⟩
  · rw [List.drop_length, pn_nil] at h1 h2
    exact ⟨h1, h2⟩
  · exact absurd rfl h
theorem At.gone {g : Nat → Bool} {l : List Cl} {ys : List Int} {E : Int} {p : Int} {i : Nat} {c : Cl} {pre : List Int} (h : At g l ys E i p 0 pre) (hc : l[i]? = some c) (hg : g i = true) : At g l ys E (i + 1) p 0 (pre ++ [p]) := by
  rcases h with ⟨_, ha, hb, h1, h2, h3⟩ | ⟨h, _⟩
  · rw [List.drop_eq_getElem?_toList_append] at h1 h2
    rw [hc] at h1 h2
    rw [show (some c).toList ++ l.drop (i + 1) = c :: l.drop (i + 1) from rfl, pn_gone hg] at h1 h2
    exact .inl ⟨rfl, ha, hb, by rw [h1, List.append_assoc]; rfl, h2, by rw [List.length_append, h3]; rfl⟩
  · exact absurd rfl h
theorem At.step {g : Nat → Bool} {l : List Cl} {ys : List Int} {E : Int} {p q e : Int} {i : Nat} {c : Cl} {pre : List Int} (h : At g l ys E i p 0 pre) (hc : l[i]? = some c) (hg : g i = false) (hs : stepV c p = (q, e)) : At g l ys E (i + 1) q e (pre ++ [p]) := by
  rcases h with ⟨_, ha, hb, h1, h2, h3⟩ | ⟨h, _⟩
  · rw [List.drop_eq_getElem?_toList_append] at h1 h2
    rw [hc] at h1 h2
    rw [show (some c).toList ++ l.drop (i + 1) = c :: l.drop (i + 1) from rfl] at h1 h2
    by_cases he : e = 0
    · subst he
      rw [pn_step hg hs] at h1 h2
      have hq := stepV_fit c p
      rw [hs] at hq
      exact .inl ⟨rfl, hq.1, hq.2, by rw [h1, List.append_assoc]; rfl, h2, by rw [List.length_append, h3]; rfl⟩
    · rw [pn_stop hg hs he] at h1 h2
      exact .inr ⟨he, h1, h2, by rw [List.length_append, h3]; exact Nat.le_refl _⟩
  · exact absurd rfl h
theorem At.start {l : List Cl} {rs : List Int} {x : Int} (hw : l.any wrongC = false) : At (Ta.gone rs) l (pens l rs x).1 (pens l rs x).2 0 (fitV x) (fitE x) [] := by
  unfold pens
  rw [if_neg (by simp [hw])]
  rcases fit_cases x with ⟨h1, h2, h3⟩ | ⟨h1, h2, h3⟩
  · rw [if_pos h1, h1, h2]
    exact .inl ⟨rfl, h3.1, h3.2, rfl, rfl, rfl⟩
  · rw [if_neg (by rw [h1]; decide), h1, h2]
    exact .inr ⟨by decide, rfl, rfl, Nat.le_refl _⟩
theorem pn_len (g : Nat → Bool) : ∀ (l : List Cl) (i : Nat) (p : Int), (pn g l i p).1.length ≤ l.length + 1 ∧ ((pn g l i p).2 = 0 → (pn g l i p).1.length = l.length + 1)
  | [], _, _ => ⟨Nat.le_refl _, fun _ => rfl⟩
  | c :: r, i, p => by
    by_cases hg : g i = true
    · rw [pn_gone hg]
      have := pn_len g r (i + 1) p
      simp only [List.length_cons]
      exact ⟨by omega, fun h => by have := this.2 h; omega⟩
    · have hg' : g i = false := by simpa using hg
      obtain ⟨q, e, hs⟩ : ∃ q e, stepV c p = (q, e) := ⟨_, _, rfl⟩
      by_cases he : e = 0
      · subst he
        rw [pn_step hg' hs]
        have := pn_len g r (i + 1) q
        simp only [List.length_cons]
        exact ⟨by omega, fun h => by have := this.2 h; omega⟩
      · rw [pn_stop hg' hs he]
        simp only [List.length_cons, List.length_nil]
        exact ⟨by omega, fun h => absurd h he⟩
theorem pens_len (l : List Cl) (rs : List Int) (x : Int) : (pens l rs x).1.length ≤ l.length + 1 ∧ ((pens l rs x).2 = 0 → (pens l rs x).1.length = l.length + 1) := by
  unfold pens
  split
  · simp
  · split
    · exact pn_len _ _ _ _
    · simp
      intro h
      contradiction
end Go.Proofs.Ytddihpiheopleaa.Ta
