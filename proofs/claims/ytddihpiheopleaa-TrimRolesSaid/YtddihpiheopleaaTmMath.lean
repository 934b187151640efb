/- Plain facts on what happens to white space at the ends of a line: roles, what is left, edges put ahead and behind, bounds. No walk. -/
import Derived.Test.YtddihpiheopleaaTaLawM
namespace Go.Proofs.Ytddihpiheopleaa.Tm
open Ce (Cl)
open Ta (wrongC stepV pn pens gone f0)
open Fo (fitV fitE)

def isE (c : Cl) : Bool := decide (c.k = 7) || (decide (c.k = 8) || decide (c.k = 5))
def ok (a b : Int) (c : Cl) : Bool := isE c || (decide (c.k = a) || decide (c.k = b))
def jst (a b : Int) (l : List Cl) : Bool := l.all (ok a b)
/-- the role of c between p and q -/
def roleV (p q : List Cl) (c : Cl) : Int := if c.k = 1 ∧ (jst 1 1 p = true ∨ jst 1 1 q = true) then 1 else if c.k = 2 ∧ jst 1 2 q = true then 2 else 0
/-- the roles of q behind p -/
def rolesF (p : List Cl) : List Cl → List Int
  | [] => []
  | c :: q => roleV p q c :: rolesF (p ++ [c]) q
def rolesV (l : List Cl) : List Int := rolesF [] l
theorem rolesF_len : ∀ (q p : List Cl), (rolesF p q).length = q.length
  | [], _ => rfl
  | c :: q, p => by rw [rolesF, List.length_cons, List.length_cons, rolesF_len q]
theorem rolesV_len (l : List Cl) : (rolesV l).length = l.length := rolesF_len l []
theorem rolesF_at : ∀ (q p : List Cl) (i : Nat) (c : Cl), q[i]? = some c → (rolesF p q)[i]? = some (roleV (p ++ q.take i) (q.drop (i + 1)) c)
  | [], _, i, c, h => by simp at h
  | d :: q, p, 0, c, h => by
    simp at h
    subst h
    simp [rolesF]
  | d :: q, p, i + 1, c, h => by
    have := rolesF_at q (p ++ [d]) i c (by simpa using h)
    simpa [rolesF] using this
theorem rolesV_at {l : List Cl} {i : Nat} {c : Cl} (h : l[i]? = some c) : (rolesV l)[i]? = some (roleV (l.take i) (l.drop (i + 1)) c) := by
  have := rolesF_at l [] i c h
  simpa [rolesV] using this
theorem roleV_cases (p q : List Cl) (c : Cl) : (roleV p q c = 1 ∧ c.k = 1) ∨ (roleV p q c = 2 ∧ c.k = 2) ∨ roleV p q c = 0 := by
  unfold roleV
  split
  · rename_i h; exact .inl ⟨rfl, h.1⟩
  · split
    · rename_i h; exact .inr (.inl ⟨rfl, h.1⟩)
    · exact .inr (.inr rfl)
theorem jst_app (a b : Int) (p q : List Cl) : jst a b (p ++ q) = (jst a b p && jst a b q) := List.all_append
theorem ok_of (a b : Int) {c : Cl} (h : isE c = true) : ok a b c = true := by simp [ok, h]

/-! ### what is left -/
/-- the cells of q that are left behind p, and their roles -/
def leftF (p : List Cl) : List Cl → List Cl
  | [] => []
  | c :: q => if roleV p q c = 1 then leftF (p ++ [c]) q else c :: leftF (p ++ [c]) q
def leftR (p : List Cl) : List Cl → List Int
  | [] => []
  | c :: q => if roleV p q c = 1 then leftR (p ++ [c]) q else roleV p q c :: leftR (p ++ [c]) q
theorem left_jst {a b : Int} (ha : a = 1) : ∀ (q p : List Cl), jst a b (leftF p q) = jst a b q
  | [], _ => rfl
  | c :: q, p => by
    have ih := left_jst (a := a) (b := b) ha q (p ++ [c])
    show jst a b (if roleV p q c = 1 then leftF (p ++ [c]) q else c :: leftF (p ++ [c]) q) = _
    split
    · rename_i h
      have hk : c.k = 1 := by
        rcases roleV_cases p q c with h1 | h1 | h1
        · exact h1.2
        · rw [h] at h1; exact absurd h1.1 (by decide)
        · rw [h] at h1; exact absurd h1 (by decide)
      rw [ih]
      show jst a b q = (ok a b c && jst a b q)
      rw [show ok a b c = true by simp [ok, hk, ha], Bool.true_and]
    · show (ok a b c && jst a b (leftF (p ++ [c]) q)) = (ok a b c && jst a b q)
      rw [ih]
/-- roles depend on what is ahead and behind only by whether it is just edges and spaces -/
theorem roleV_congr {p p' q q' : List Cl} (c : Cl) (h1 : jst 1 1 p = jst 1 1 p') (h2 : jst 1 1 q = jst 1 1 q') (h3 : jst 1 2 q = jst 1 2 q') : roleV p q c = roleV p' q' c := by
  unfold roleV
  rw [h1, h2, h3]
theorem rolesF_left : ∀ (q p p' : List Cl), jst 1 1 p' = jst 1 1 p → rolesF p' (leftF p q) = leftR p q
  | [], _, _, _ => rfl
  | c :: q, p, p', hp => by
    have e1 : leftF p (c :: q) = if roleV p q c = 1 then leftF (p ++ [c]) q else c :: leftF (p ++ [c]) q := rfl
    have e2 : leftR p (c :: q) = if roleV p q c = 1 then leftR (p ++ [c]) q else roleV p q c :: leftR (p ++ [c]) q := rfl
    rw [e1, e2]
    by_cases h : roleV p q c = 1
    · rw [if_pos h, if_pos h]
      have hk : c.k = 1 := by
        rcases roleV_cases p q c with h1 | h1 | h1
        · exact h1.2
        · rw [h] at h1; exact absurd h1.1 (by decide)
        · rw [h] at h1; exact absurd h1 (by decide)
      refine rolesF_left q (p ++ [c]) p' ?_
      rw [jst_app, hp, show jst 1 1 [c] = true by simp [jst, ok, hk], Bool.and_true]
    · rw [if_neg h, if_neg h]
      show roleV p' (leftF (p ++ [c]) q) c :: rolesF (p' ++ [c]) (leftF (p ++ [c]) q) = _
      rw [roleV_congr c hp (left_jst rfl q (p ++ [c])) (left_jst rfl q (p ++ [c])), rolesF_left q (p ++ [c]) (p' ++ [c]) (by rw [jst_app, jst_app, hp])]
theorem left_again (l : List Cl) : rolesV (leftF [] l) = leftR [] l := rolesF_left l [] [] rfl
/-- how many are no edges -/
def some_ (l : List Cl) : Nat := (l.filter fun c => !isE c).length
theorem some_pos {a b : Int} {l : List Cl} (h : jst a b l = false) : 0 < some_ l := by
  have : ∃ c ∈ l, isE c = false := by
    apply Classical.byContradiction
    intro hn
    have : jst a b l = true := List.all_eq_true.2 fun c hc => ok_of a b (by
      cases he : isE c with
      | true => rfl
      | false => exact absurd ⟨c, hc, he⟩ hn)
    rw [this] at h
    cases h
  obtain ⟨c, hc, he⟩ := this
  exact List.length_pos_of_mem (List.mem_filter.2 ⟨hc, by rw [he]; rfl⟩)
/-- a space that is left has others on both sides -/
theorem left_space {l : List Cl} {i : Nat} {c : Cl} (h : (leftF [] l)[i]? = some c) (hk : c.k = 1) : 0 < some_ ((leftF [] l).take i) ∧ 0 < some_ ((leftF [] l).drop (i + 1)) := by
  have h1 := rolesV_at h
  rw [left_again] at h1
  have key : ∀ (q p : List Cl) (r : Int), r ∈ leftR p q → r ≠ 1 := by
    intro q
    induction q with
    | nil => intro p r hr; cases hr
    | cons d q ih =>
      intro p r hr
      have hr' : r ∈ (if roleV p q d = 1 then leftR (p ++ [d]) q else roleV p q d :: leftR (p ++ [d]) q) := hr
      split at hr'
      · exact ih _ r hr'
      · rename_i h
        rcases List.mem_cons.1 hr' with rfl | hr'
        · exact h
        · exact ih _ r hr'
  have h2 := key l [] _ (List.mem_of_getElem? h1)
  have h3 : ¬ (jst 1 1 ((leftF [] l).take i) = true ∨ jst 1 1 ((leftF [] l).drop (i + 1)) = true) := fun h => h2 (if_pos ⟨hk, h⟩)
  constructor
  · refine some_pos (a := 1) (b := 1) ?_
    cases hj : jst 1 1 ((leftF [] l).take i) with
    | false => rfl
    | true => exact absurd (.inl hj) h3
  · refine some_pos (a := 1) (b := 1) ?_
    cases hj : jst 1 1 ((leftF [] l).drop (i + 1)) with
    | false => rfl
    | true => exact absurd (.inr hj) h3

/-! ### edges ahead and behind -/
def allE (l : List Cl) : Prop := ∀ c ∈ l, isE c = true
theorem jst_edges {a b : Int} {l : List Cl} (h : allE l) : jst a b l = true := List.all_eq_true.2 fun c hc => ok_of a b (h c hc)
theorem role_edge {p q : List Cl} {c : Cl} (h : isE c = true) : roleV p q c = 0 := by
  unfold roleV
  simp only [isE, Bool.or_eq_true, decide_eq_true_eq] at h
  rw [if_neg (by omega), if_neg (by omega)]
theorem roles_edges : ∀ (q p : List Cl), allE q → rolesF p q = List.replicate q.length 0
  | [], _, _ => rfl
  | c :: q, p, h => by
    rw [rolesF, role_edge (h c (List.mem_cons_self ..)), roles_edges q _ fun d hd => h d (List.mem_cons_of_mem _ hd)]
    rfl
theorem rolesF_behind : ∀ (q p p' b : List Cl), jst 1 1 p' = jst 1 1 p → allE b → rolesF p' (q ++ b) = rolesF p q ++ List.replicate b.length 0
  | [], p, p', b, _, hb => roles_edges b p' hb
  | c :: q, p, p', b, hp, hb => by
    show roleV p' (q ++ b) c :: rolesF (p' ++ [c]) (q ++ b) = (roleV p q c :: rolesF (p ++ [c]) q) ++ _
    rw [roleV_congr (q' := q) c hp (by rw [jst_app, jst_edges hb, Bool.and_true]) (by rw [jst_app, jst_edges hb, Bool.and_true]), rolesF_behind q (p ++ [c]) (p' ++ [c]) b (by rw [jst_app, jst_app, hp]) hb]
    rfl
theorem rolesF_app : ∀ (a p q : List Cl), rolesF p (a ++ q) = (rolesF p (a ++ q)).take a.length ++ rolesF (p ++ a) q
  | [], p, q => by simp
  | c :: a, p, q => by
    have ih := rolesF_app a (p ++ [c]) q
    show roleV p (a ++ q) c :: rolesF (p ++ [c]) (a ++ q) = _
    rw [ih]
    simp [rolesF]
theorem rolesF_ahead : ∀ (a p q : List Cl), allE a → rolesF p (a ++ q) = List.replicate a.length 0 ++ rolesF (p ++ a) q
  | [], p, q, _ => by simp
  | c :: a, p, q, h => by
    have ih := rolesF_ahead a (p ++ [c]) q fun d hd => h d (List.mem_cons_of_mem _ hd)
    show roleV p (a ++ q) c :: rolesF (p ++ [c]) (a ++ q) = _
    rw [ih, role_edge (h c (List.mem_cons_self ..))]
    simp [List.replicate_succ]
/-- edges change no other cell's role -/
theorem roles_between {a l b : List Cl} (ha : allE a) (hb : allE b) : rolesV (a ++ l ++ b) = List.replicate a.length 0 ++ (rolesV l ++ List.replicate b.length 0) := by
  unfold rolesV
  rw [List.append_assoc, rolesF_ahead a [] (l ++ b) ha, rolesF_behind l [] ([] ++ a) b (by rw [List.nil_append, jst_edges ha]; rfl) hb]

/-! ### how far lines go -/
def lastP (g : Nat → Bool) (l : List Cl) (i : Nat) (p : Int) : Int := (pn g l i p).1.getLastD 0
theorem pn_cons (g : Nat → Bool) (l : List Cl) (i : Nat) (p : Int) : ∃ zs, (pn g l i p).1 = p :: zs := by
  cases l with
  | nil => exact ⟨[], rfl⟩
  | cons c r =>
    by_cases hg : g i = true
    · rw [Ta.pn_gone hg]; exact ⟨_, rfl⟩
    · obtain ⟨q, e, hs⟩ : ∃ q e, stepV c p = (q, e) := ⟨_, _, rfl⟩
      by_cases he : e = 0
      · subst he; rw [Ta.pn_step (by simpa using hg) hs]; exact ⟨_, rfl⟩
      · rw [Ta.pn_stop (by simpa using hg) hs he]; exact ⟨_, rfl⟩
theorem last_cons (p : Int) {l : List Int} (h : l ≠ []) : (p :: l).getLastD 0 = l.getLastD 0 := by
  cases l with
  | nil => exact absurd rfl h
  | cons a t => rfl
theorem lastP_nil (g : Nat → Bool) (i : Nat) (p : Int) : lastP g [] i p = p := rfl
theorem lastP_gone {g : Nat → Bool} {c : Cl} {r : List Cl} {i : Nat} {p : Int} (h : g i = true) : lastP g (c :: r) i p = lastP g r (i + 1) p := by
  unfold lastP
  rw [Ta.pn_gone h]
  obtain ⟨zs, hz⟩ := pn_cons g r (i + 1) p
  exact last_cons _ (by rw [hz]; simp)
theorem lastP_step {g : Nat → Bool} {c : Cl} {r : List Cl} {i : Nat} {p q : Int} (h : g i = false) (hs : stepV c p = (q, 0)) : lastP g (c :: r) i p = lastP g r (i + 1) q := by
  unfold lastP
  rw [Ta.pn_step h hs]
  obtain ⟨zs, hz⟩ := pn_cons g r (i + 1) q
  exact last_cons _ (by rw [hz]; simp)
theorem pn_ok (M : Int) (hM : 0 ≤ M) (g : Nat → Bool) : ∀ (l : List Cl) (i : Nat) (p B : Int), l.any wrongC = false → (∀ c ∈ l, -M ≤ c.adv ∧ c.adv ≤ M) → -B ≤ p ∧ p ≤ B → B + l.length * M ≤ 4611686018427387904 → (pn g l i p).2 = 0
  | [], _, _, _, _, _, _, _ => rfl
  | c :: r, i, p, B, hw, ha, hp, hB => by
    have hl : ((c :: r).length : Int) * M = r.length * M + M := by rw [List.length_cons, Int.natCast_add, Int.add_mul]; simp
    rw [hl] at hB
    have hrM : 0 ≤ (r.length : Int) * M := Int.mul_nonneg (by omega) hM
    have hwc : wrongC c = false := by have := List.any_eq_false.1 hw c (List.mem_cons_self ..); simpa using this
    have hwr : r.any wrongC = false := List.any_eq_false.2 fun d hd => List.any_eq_false.1 hw d (List.mem_cons_of_mem _ hd)
    have har : ∀ d ∈ r, -M ≤ d.adv ∧ d.adv ≤ M := fun d hd => ha d (List.mem_cons_of_mem _ hd)
    by_cases hg : g i = true
    · rw [Ta.pn_gone hg]
      exact pn_ok M hM g r (i + 1) p (B + M) hwr har ⟨by omega, by omega⟩ (by omega)
    · obtain ⟨q, hs, h1, h2⟩ := Ta.step_ok hwc hp (ha c (List.mem_cons_self ..)) (by omega) hM
      rw [Ta.pn_step (by simpa using hg) hs]
      exact pn_ok M hM g r (i + 1) q (B + M) hwr har ⟨by omega, h2⟩ (by omega)
/-- what cells that are not passed over go, together -/
def sumK (g : Nat → Bool) : List Cl → Nat → Int
  | [], _ => 0
  | c :: r, i => (if g i = true then 0 else c.adv) + sumK g r (i + 1)
theorem last_sum (g : Nat → Bool) : ∀ (l : List Cl) (i : Nat) (p : Int), (∀ c ∈ l, c.k ≠ 4) → (pn g l i p).2 = 0 → lastP g l i p = p + sumK g l i
  | [], _, p, _, _ => by simp [lastP_nil, sumK]
  | c :: r, i, p, hk, h => by
    have hkr : ∀ d ∈ r, d.k ≠ 4 := fun d hd => hk d (List.mem_cons_of_mem _ hd)
    by_cases hg : g i = true
    · rw [Ta.pn_gone hg] at h
      rw [lastP_gone hg, last_sum g r (i + 1) p hkr h, sumK, if_pos hg]
      omega
    · have hg' : g i = false := by simpa using hg
      obtain ⟨q, e, hs⟩ : ∃ q e, stepV c p = (q, e) := ⟨_, _, rfl⟩
      by_cases he : e = 0
      · subst he
        rw [Ta.pn_step hg' hs] at h
        rw [lastP_step hg' hs, last_sum g r (i + 1) q hkr h, sumK, if_neg hg, Ta.step_char (hk c (List.mem_cons_self ..)) hs]
        omega
      · rw [Ta.pn_stop hg' hs he] at h
        exact absurd h he
theorem step_up {c : Cl} {p q : Int} (h : 0 ≤ c.adv) (hs : stepV c p = (q, 0)) : p ≤ q := by
  by_cases hk : c.k = 4
  · obtain ⟨_, h1, h2⟩ := Ta.step_tab hk hs
    by_cases h0 : c.adv = 0
    · rw [h1 h0]; omega
    · rw [h2 (by omega)]
      have := Ta.tab_facts (a := p) (show 0 < c.adv by omega)
      omega
  · have := Ta.step_char hk hs
    omega
/-- who passes over less goes no less far -/
theorem last_le (g1 g2 : Nat → Bool) (hg : ∀ i, g2 i = true → g1 i = true) : ∀ (l : List Cl) (i : Nat) (p1 p2 : Int), (∀ c ∈ l, 0 ≤ c.adv) → p1 ≤ p2 → (pn g1 l i p1).2 = 0 → (pn g2 l i p2).2 = 0 → lastP g1 l i p1 ≤ lastP g2 l i p2
  | [], _, p1, p2, _, hp, _, _ => hp
  | c :: r, i, p1, p2, ha, hp, h1, h2 => by
    have har : ∀ d ∈ r, 0 ≤ d.adv := fun d hd => ha d (List.mem_cons_of_mem _ hd)
    have hc := ha c (List.mem_cons_self ..)
    by_cases hg2 : g2 i = true
    · have hg1 := hg i hg2
      rw [Ta.pn_gone hg1] at h1
      rw [Ta.pn_gone hg2] at h2
      rw [lastP_gone hg1, lastP_gone hg2]
      exact last_le g1 g2 hg r (i + 1) p1 p2 har hp h1 h2
    · have hg2' : g2 i = false := by simpa using hg2
      obtain ⟨q2, e2, hs2⟩ : ∃ q e, stepV c p2 = (q, e) := ⟨_, _, rfl⟩
      by_cases he2 : e2 = 0
      · subst he2
        rw [Ta.pn_step hg2' hs2] at h2
        rw [lastP_step hg2' hs2]
        by_cases hg1 : g1 i = true
        · rw [Ta.pn_gone hg1] at h1
          rw [lastP_gone hg1]
          exact last_le g1 g2 hg r (i + 1) p1 q2 har (by have := step_up hc hs2; omega) h1 h2
        · have hg1' : g1 i = false := by simpa using hg1
          obtain ⟨q1, e1, hs1⟩ : ∃ q e, stepV c p1 = (q, e) := ⟨_, _, rfl⟩
          by_cases he1 : e1 = 0
          · subst he1
            rw [Ta.pn_step hg1' hs1] at h1
            rw [lastP_step hg1' hs1]
            exact last_le g1 g2 hg r (i + 1) q1 q2 har (Ta.step_le hp hs1 hs2) h1 h2
          · rw [Ta.pn_stop hg1' hs1 he1] at h1
            exact absurd h1 he1
      · rw [Ta.pn_stop hg2' hs2 he2] at h2
        exact absurd h2 he2
/-- who passes over all but what goes nowhere, goes nowhere -/
theorem last_same (g : Nat → Bool) : ∀ (l : List Cl) (i : Nat) (p : Int), (∀ (j : Nat) c, l[j]? = some c → g (i + j) = true ∨ c.adv = 0) → (pn g l i p).2 = 0 → lastP g l i p = p
  | [], _, _, _, _ => rfl
  | c :: r, i, p, hz, h => by
    have hzr : ∀ (j : Nat) d, r[j]? = some d → g (i + 1 + j) = true ∨ d.adv = 0 := fun j d hd => by
      have := hz (j + 1) d (by simpa using hd)
      rwa [show i + (j + 1) = i + 1 + j by omega] at this
    by_cases hg : g i = true
    · rw [Ta.pn_gone hg] at h
      rw [lastP_gone hg]
      exact last_same g r (i + 1) p hzr h
    · have hg' : g i = false := by simpa using hg
      have ha : c.adv = 0 := by
        rcases hz 0 c rfl with h | h
        · exact absurd h (by simpa using hg)
        · exact h
      obtain ⟨q, e, hs⟩ : ∃ q e, stepV c p = (q, e) := ⟨_, _, rfl⟩
      by_cases he : e = 0
      · subst he
        rw [Ta.pn_step hg' hs] at h
        rw [lastP_step hg' hs]
        have hq : q = p := by
          by_cases hk : c.k = 4
          · exact (Ta.step_tab hk hs).2.1 ha
          · have := Ta.step_char hk hs; omega
        subst hq
        exact last_same g r (i + 1) q hzr h
      · rw [Ta.pn_stop hg' hs he] at h
        exact absurd h he
theorem sumK_app (g : Nat → Bool) : ∀ (a b : List Cl) (i : Nat), sumK g (a ++ b) i = sumK g a i + sumK g b (i + a.length)
  | [], b, i => by simp [sumK]
  | c :: a, b, i => by
    have ih := sumK_app g a b (i + 1)
    show (if g i = true then 0 else c.adv) + sumK g (a ++ b) (i + 1) = (if g i = true then 0 else c.adv) + sumK g a (i + 1) + _
    rw [ih, List.length_cons, show i + 1 + a.length = i + (a.length + 1) by omega]
    omega
theorem sumK_congr {g g' : Nat → Bool} : ∀ (l : List Cl) (i i' : Nat), (∀ j, j < l.length → g (i + j) = g' (i' + j)) → sumK g l i = sumK g' l i'
  | [], _, _, _ => rfl
  | c :: r, i, i', h => by
    have h0 := h 0 (by simp)
    simp only [Nat.add_zero] at h0
    show (if g i = true then 0 else c.adv) + _ = (if g' i' = true then 0 else c.adv) + _
    rw [h0, sumK_congr r (i + 1) (i' + 1) fun j hj => by
      have := h (j + 1) (by simpa using hj)
      rwa [show i + (j + 1) = i + 1 + j by omega, show i' + (j + 1) = i' + 1 + j by omega] at this]
/-- all of them -/
def advs (l : List Cl) : Int := (l.map (·.adv)).sum
theorem sumK_none {g : Nat → Bool} : ∀ (l : List Cl) (i : Nat), (∀ j, j < l.length → g (i + j) = false) → sumK g l i = advs l
  | [], _, _ => rfl
  | c :: r, i, h => by
    have h0 := h 0 (by simp)
    simp only [Nat.add_zero] at h0
    show (if g i = true then 0 else c.adv) + _ = c.adv + advs r
    rw [if_neg (by simp [h0]), sumK_none r (i + 1) fun j hj => by
      have := h (j + 1) (by simpa using hj)
      rwa [show i + (j + 1) = i + 1 + j by omega] at this]
end Go.Proofs.Ytddihpiheopleaa.Tm
