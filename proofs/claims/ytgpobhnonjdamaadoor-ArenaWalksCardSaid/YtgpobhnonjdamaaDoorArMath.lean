/- Plain facts on trees that are lists of parents, in the order of the text: who is above whom, ends, kids, the nearest node above two. No walk. -/
import Derived.Test.YtgpobhnonjdamaaDoorBase
namespace Go.Proofs.YtgpobhnonjdamaaDoor

/-- a node's parent; -1 for none -/
def pr (ps : List Int) (i : Nat) : Int := ps.getD i (-1)
/-- a is b, or above it -/
inductive Abv (ps : List Int) (a : Nat) : Nat → Prop
  | refl : Abv ps a a
  | up {b : Nat} : 0 ≤ pr ps b → Abv ps a (pr ps b).toNat → Abv ps a b
/-- a tree, in the order of the text -/
structure Tre (ps : List Int) : Prop where
  pos : 0 < ps.length
  root : pr ps 0 = -1
  par : ∀ i, 0 < i → i < ps.length → 0 ≤ pr ps i ∧ pr ps i < i ∧ Abv ps (pr ps i).toNat (i - 1)

theorem pr_out (ps : List Int) (i : Nat) (h : ps.length ≤ i) : pr ps i = -1 := by
  unfold pr
  rw [List.getD_eq_getElem?_getD, List.getElem?_eq_none h]
  rfl

section
variable {ps : List Int}

theorem Tre.lt (h : Tre ps) (i : Nat) (h0 : 0 ≤ pr ps i) : (pr ps i).toNat < i ∧ i < ps.length ∧ 0 < i := by
  have hi : i < ps.length := by
    rcases Nat.lt_or_ge i ps.length with h1 | h1
    · exact h1
    · rw [pr_out ps i h1] at h0; omega
  have hp : 0 < i := by
    rcases Nat.eq_zero_or_pos i with rfl | h1
    · rw [h.root] at h0; omega
    · exact h1
  have := h.par i hp hi
  omega
theorem Abv.trans {a b c : Nat} (h1 : Abv ps a b) (h2 : Abv ps b c) : Abv ps a c := by
  induction h2 with
  | refl => exact h1
  | up h0 _ ih => exact .up h0 ih
theorem Abv.le (h : Tre ps) {a b : Nat} (h1 : Abv ps a b) : a ≤ b := by
  induction h1 with
  | refl => exact Nat.le_refl _
  | up h0 _ ih => have := h.lt _ h0; omega
/-- strictly above: above the parent -/
theorem Abv.parent {a b : Nat} (h1 : Abv ps a b) (hne : a ≠ b) : 0 ≤ pr ps b ∧ Abv ps a (pr ps b).toNat := by
  cases h1 with
  | refl => exact absurd rfl hne
  | up h0 h2 => exact ⟨h0, h2⟩
theorem Abv.antisymm (h : Tre ps) {a b : Nat} (h1 : Abv ps a b) (h2 : Abv ps b a) : a = b := Nat.le_antisymm (h1.le h) (h2.le h)
theorem Abv.total {a b c : Nat} (h1 : Abv ps a c) (h2 : Abv ps b c) : Abv ps a b ∨ Abv ps b a := by
  induction h1 with
  | refl => exact .inr h2
  | up h0 h3 ih =>
    rename_i c
    by_cases e : b = c
    · subst e
      exact .inl (.up h0 h3)
    · exact ih (h2.parent e).2
theorem Abv.root (h : Tre ps) : ∀ b, b < ps.length → Abv ps 0 b := by
  intro b
  induction b using Nat.strongRecOn with
  | ind b ih =>
    intro hb
    rcases Nat.eq_zero_or_pos b with rfl | hp
    · exact .refl
    · obtain ⟨h1, h2, _⟩ := h.par b hp hb
      exact .up h1 (ih _ (by omega) (by omega))
/-- what lies between a node and one below it is below it -/
theorem Abv.between (h : Tre ps) {a : Nat} : ∀ c, c < ps.length → Abv ps a c → ∀ b, a ≤ b → b ≤ c → Abv ps a b := by
  intro c
  induction c with
  | zero =>
    intro _ h1 b hb hc
    have : a = 0 := by have := h1.le h; omega
    have : b = 0 := by omega
    subst this
    exact h1
  | succ c ih =>
    intro hcl h1 b hb hc
    by_cases e : b = c + 1
    · rw [e]; exact h1
    · by_cases ea : a = c + 1
      · omega
      · obtain ⟨h0, h2⟩ := h1.parent ea
        obtain ⟨_, _, h3⟩ := h.par (c + 1) (by omega) hcl
        exact ih (by omega) (h2.trans h3) b hb (by omega)
/-- e is a node's end -/
structure EndOf (ps : List Int) (a e : Nat) : Prop where
  lt : a < e
  le : e ≤ ps.length
  all : ∀ b, a ≤ b → b < e → Abv ps a b
  non : e < ps.length → ¬ Abv ps a e
theorem EndOf.out (h : Tre ps) {a e : Nat} (he : EndOf ps a e) {b : Nat} (hb : b < ps.length) : Abv ps a b ↔ a ≤ b ∧ b < e := by
  constructor
  · intro h1
    refine ⟨h1.le h, ?_⟩
    rcases Nat.lt_or_ge b e with h2 | h2
    · exact h2
    · have hel : e < ps.length := by omega
      exact absurd (Abv.between h b hb h1 e (Nat.le_of_lt he.lt) h2) (he.non hel)
  · intro ⟨h1, h2⟩
    exact he.all b h1 h2
theorem EndOf.uniq {a e e' : Nat} (h1 : EndOf ps a e) (h2 : EndOf ps a e') : e = e' := by
  rcases Nat.lt_trichotomy e e' with h3 | h3 | h3
  · have hl : e < ps.length := by have := h2.le; omega
    exact absurd (h2.all e (Nat.le_of_lt h1.lt) h3) (h1.non hl)
  · exact h3
  · have hl : e' < ps.length := by have := h1.le; omega
    exact absurd (h1.all e' (Nat.le_of_lt h2.lt) h3) (h2.non hl)
theorem EndOf.exists_ (a : Nat) (ha : a < ps.length) : ∃ e, EndOf ps a e := by
  have key : ∀ n e, a < e → e + n = ps.length → (∀ b, a ≤ b → b < e → Abv ps a b) → ∃ e', EndOf ps a e' := by
    intro n
    induction n with
    | zero =>
      intro e h1 h2 h3
      exact ⟨e, h1, by omega, h3, fun h => by omega⟩
    | succ n ih =>
      intro e h1 h2 h3
      by_cases h4 : Abv ps a e
      · exact ih (e + 1) (by omega) (by omega) fun b hb1 hb2 => by
          by_cases e1 : b = e
          · rw [e1]; exact h4
          · exact h3 b hb1 (by omega)
      · exact ⟨e, h1, by omega, h3, fun _ => h4⟩
  exact key (ps.length - (a + 1)) (a + 1) (by omega) (by omega) fun b hb1 hb2 => by
    have : b = a := by omega
    rw [this]; exact .refl
/-- the end lies within the parent's -/
theorem EndOf.mono (h : Tre ps) {a b e f : Nat} (hab : Abv ps a b) (ha : EndOf ps a e) (hb : EndOf ps b f) : f ≤ e := by
  rcases Nat.lt_or_ge e f with h1 | h1
  · have hl : e < ps.length := by have := hb.le; omega
    have hbe : b < e := by
      have hbl : b < ps.length := by have := hb.lt; have := hb.le; omega
      exact ((ha.out h hbl).1 hab).2
    exact absurd (hab.trans (hb.all e (Nat.le_of_lt hbe) h1)) (ha.non hl)
  · exact h1
/-- the first kid, if there is one -/
theorem kid_first (h : Tre ps) {a e : Nat} (ha : EndOf ps a e) (h1 : a + 1 < e) : pr ps (a + 1) = a := by
  have hl : a + 1 < ps.length := by have := ha.le; omega
  have h2 := ha.all (a + 1) (by omega) h1
  obtain ⟨h0, h3⟩ := h2.parent (by omega)
  obtain ⟨_, _, h4⟩ := h.par (a + 1) (by omega) hl
  have := Abv.antisymm h h4 h3
  omega
/-- behind a kid's end stands the next kid -/
theorem kid_next (h : Tre ps) {a e k f : Nat} (ha : EndOf ps a e) (hk : pr ps k = a) (hf : EndOf ps k f) (h1 : f < e) : pr ps f = a := by
  have hl : f < ps.length := by have := ha.le; omega
  have hkl : k < ps.length := by have := hf.lt; omega
  have hka : a < k := by have := h.lt k (by omega); omega
  have hfk := hf.lt
  have haf := ha.all f (by omega) h1
  obtain ⟨h0, h3⟩ := haf.parent (by omega)
  obtain ⟨_, h5, h4⟩ := h.par f (by omega) hl
  have hkf := hf.all (f - 1) (by omega) (by omega)
  rcases hkf.total h4 with h6 | h6
  · exact absurd (Abv.up h0 h6) (hf.non hl)
  · by_cases e1 : (pr ps f).toNat = k
    · exact absurd (Abv.up h0 (by rw [e1]; exact .refl)) (hf.non hl)
    · obtain ⟨_, h7⟩ := h6.parent e1
      rw [hk, Int.toNat_natCast] at h7
      have := Abv.antisymm h h3 h7
      omega
/-- a kid stands below its parent's end -/
theorem kid_in (h : Tre ps) {a e k : Nat} (ha : EndOf ps a e) (hk : pr ps k = a) : a < k ∧ k < e ∧ k < ps.length := by
  obtain ⟨h1, h2, _⟩ := h.lt k (by omega)
  have h3 : Abv ps a k := .up (by omega) (by rw [hk, Int.toNat_natCast]; exact .refl)
  have := (ha.out h h2).1 h3
  exact ⟨by rw [hk] at h1; simpa using h1, this.2, h2⟩

/-- a list of nodes of which each begins where the one before it ends, from n up to e -/
inductive Chn (ps : List Int) (e : Nat) : Nat → List Nat → Prop
  | nil : Chn ps e e []
  | cons {n f : Nat} {l : List Nat} : EndOf ps n f → Chn ps e f l → Chn ps e n (n :: l)
def kidsL (ps : List Int) (a : Nat) : List Nat := (List.range ps.length).filter fun k => decide (pr ps k = a)
theorem kids_none {a at_ n : Nat} (h : ∀ k, at_ ≤ k → k < at_ + n → pr ps k ≠ a) : (List.range' at_ n).filter (fun k => decide (pr ps k = a)) = [] := by
  rw [List.filter_eq_nil_iff]
  intro k hk
  rw [List.mem_range'_1] at hk
  simp [h k hk.1 hk.2]
theorem kids_from (h : Tre ps) {a e : Nat} (ha : EndOf ps a e) : ∀ (n at_ : Nat), at_ + n = e → a < at_ → (0 < n → pr ps at_ = a) → Chn ps e at_ ((List.range' at_ n).filter fun k => decide (pr ps k = a)) := by
  intro n
  induction n using Nat.strongRecOn with
  | ind n ih =>
    intro at_ he hlt hp
    rcases Nat.eq_zero_or_pos n with rfl | hn
    · have : at_ = e := by omega
      subst this
      exact .nil
    · have hpa := hp hn
      have hle := ha.le
      obtain ⟨f, hf⟩ := EndOf.exists_ (ps := ps) at_ (by omega)
      have haa : Abv ps a at_ := ha.all at_ (by omega) (by omega)
      have hfe := EndOf.mono h haa ha hf
      have hfl := hf.lt
      have e1 : List.range' at_ n = at_ :: (List.range' (at_ + 1) (f - at_ - 1) ++ List.range' f (e - f)) := by
        have h1 : n = (f - at_ - 1) + (e - f) + 1 := by omega
        rw [h1, List.range'_succ, ← List.range'_append_1]
        rw [show at_ + 1 + (f - at_ - 1) = f by omega]
      have h2 := kids_none (ps := ps) (a := a) (at_ := at_ + 1) (n := f - at_ - 1) (fun k hk1 hk2 hk3 => by
        obtain ⟨h3, h4⟩ := (hf.all k (by omega) (by omega)).parent (by omega)
        have := h4.le h
        rw [hk3, Int.toNat_natCast] at this
        omega)
      rw [e1, List.filter_cons, if_pos (by simp [hpa]), List.filter_append, h2, List.nil_append]
      exact .cons hf (ih (e - f) (by omega) f (by omega) (by omega) fun h5 => kid_next h ha hpa hf (by omega))
theorem kids_chain (h : Tre ps) {a e : Nat} (ha : EndOf ps a e) : Chn ps e (a + 1) (kidsL ps a) := by
  have hlt := ha.lt
  have hle := ha.le
  have e1 : List.range ps.length = List.range' 0 (a + 1) ++ (List.range' (a + 1) (e - (a + 1)) ++ List.range' e (ps.length - e)) := by
    rw [List.range_eq_range']
    have h1 : ps.length = (a + 1) + ((e - (a + 1)) + (ps.length - e)) := by omega
    have h2 := List.range'_append_1 (s := a + 1) (m := e - (a + 1)) (n := ps.length - e)
    have h3 := List.range'_append_1 (s := 0) (m := a + 1) (n := (e - (a + 1)) + (ps.length - e))
    rw [show a + 1 + (e - (a + 1)) = e by omega] at h2
    rw [Nat.zero_add, ← h2] at h3
    rw [h3, ← h1]
  unfold kidsL
  rw [e1, List.filter_append, List.filter_append, kids_none (n := a + 1) (fun k h1 h2 h3 => by have := (kid_in h ha h3).1; omega), kids_none (n := ps.length - e) (fun k h1 h2 h3 => by have := (kid_in h ha h3).2.1; omega), List.nil_append, List.append_nil]
  exact kids_from h ha _ _ (by omega) (by omega) fun h5 => kid_first h ha (by omega)

/-! ### the nearest node above two -/
structure Com (ps : List Int) (a b c : Nat) : Prop where
  left : Abv ps c a
  right : Abv ps c b
  near : ∀ x, Abv ps x a → Abv ps x b → Abv ps x c
theorem Com.symm {a b c : Nat} (h : Com ps a b c) : Com ps b a c := ⟨h.right, h.left, fun x h1 h2 => h.near x h2 h1⟩
theorem Com.uniq (h : Tre ps) {a b c c' : Nat} (h1 : Com ps a b c) (h2 : Com ps a b c') : c = c' :=
  Abv.antisymm h (h2.near c h1.left h1.right) (h1.near c' h2.left h2.right)
theorem Com.self {a b : Nat} (h : Abv ps a b) : Com ps a b a := ⟨.refl, h, fun _ h1 _ => h1⟩
/-- a step up from a node that is not above the other one -/
theorem Com.up {a b c : Nat} (ha : 0 ≤ pr ps a) (hn : ¬ Abv ps a b) (h : Com ps (pr ps a).toNat b c) : Com ps a b c :=
  ⟨.up ha h.left, h.right, fun x h1 h2 => h.near x (h1.parent (fun e => hn (e ▸ h2))).2 h2⟩

/-! ### another node, below the root, behind all -/
theorem pr_more (ps : List Int) (p : Int) (i : Nat) (h : i < ps.length) : pr (ps ++ [p]) i = pr ps i := by
  unfold pr
  rw [List.getD_eq_getElem?_getD, List.getD_eq_getElem?_getD, List.getElem?_append_left h]
theorem pr_last (ps : List Int) (p : Int) : pr (ps ++ [p]) ps.length = p := by
  unfold pr
  simp
theorem Abv.more (h : Tre ps) (p : Int) {a b : Nat} (hb : b < ps.length) : Abv (ps ++ [p]) a b ↔ Abv ps a b := by
  constructor
  · intro h1
    induction h1 with
    | refl => exact .refl
    | up h0 _ ih =>
      rw [pr_more ps p _ hb] at h0 ih
      have := h.lt _ h0
      exact .up h0 (ih (by omega))
  · intro h1
    induction h1 with
    | refl => exact .refl
    | up h0 _ ih =>
      have := h.lt _ h0
      exact .up (by rw [pr_more ps p _ hb]; exact h0) (by rw [pr_more ps p _ hb]; exact ih (by omega))
theorem Tre.more (h : Tre ps) : Tre (ps ++ [0]) := by
  have hp := h.pos
  refine ⟨by simp, by rw [pr_more ps 0 0 hp]; exact h.root, fun i hi hl => ?_⟩
  rw [List.length_append, List.length_singleton] at hl
  by_cases e : i = ps.length
  · subst e
    rw [pr_last]
    refine ⟨by omega, by omega, ?_⟩
    have h2 := Abv.root h (ps.length - 1) (by omega)
    exact (Abv.more h 0 (by omega)).2 h2
  · have hil : i < ps.length := by omega
    rw [pr_more ps 0 i hil]
    obtain ⟨h1, h2, h3⟩ := h.par i hi hil
    exact ⟨h1, h2, (Abv.more h 0 (by omega)).2 h3⟩
theorem EndOf.more (h : Tre ps) {a e : Nat} (ha0 : 0 < a) (ha : EndOf ps a e) : EndOf (ps ++ [0]) a e := by
  have hle := ha.le
  refine ⟨ha.lt, by simp; omega, fun b hb1 hb2 => (Abv.more h 0 (by omega)).2 (ha.all b hb1 hb2), fun hl h1 => ?_⟩
  by_cases e1 : e < ps.length
  · exact ha.non e1 ((Abv.more h 0 e1).1 h1)
  · have : e = ps.length := by omega
    subst this
    have hlt := ha.lt
    obtain ⟨_, h2⟩ := h1.parent (by omega)
    rw [pr_last] at h2
    have := h2.le h.more
    simp at this
    omega
end
end Go.Proofs.YtgpobhnonjdamaaDoor
