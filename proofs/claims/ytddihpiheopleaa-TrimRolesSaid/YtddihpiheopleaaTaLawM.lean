/- Plain facts behind the laws of tabs: pens cut anywhere, steps one by one, bounds, pens further on, pens from a greater number, cells that are taken out. No walk. -/
import Derived.Test.YtddihpiheopleaaTaMath
namespace Go.Proofs.Ytddihpiheopleaa.Ta
open Ce (Cl)
open Fo (fitV fitE)

def Bd (p : Int) : Prop := -4611686018427387904 ≤ p ∧ p ≤ 4611686018427387904
/-- the pens of a row that is valid, without roles -/
def f0 (l : List Cl) (p : Int) : List Int × Int := pn (fun _ => false) l 0 p
theorem pn_const : ∀ (l : List Cl) (i j : Nat) (p : Int), pn (fun _ => false) l i p = pn (fun _ => false) l j p
  | [], _, _, _ => rfl
  | c :: r, i, j, p => by
    obtain ⟨q, e, hs⟩ : ∃ q e, stepV c p = (q, e) := ⟨_, _, rfl⟩
    by_cases he : e = 0
    · subst he
      rw [pn_step rfl hs, pn_step rfl hs, pn_const r (i + 1) (j + 1) q]
    · rw [pn_stop rfl hs he, pn_stop rfl hs he]
theorem f0_step {c : Cl} {r : List Cl} {p q : Int} (hs : stepV c p = (q, 0)) : f0 (c :: r) p = (p :: (f0 r q).1, (f0 r q).2) := by
  unfold f0
  rw [pn_step rfl hs, pn_const r (0 + 1) 0 q]
theorem f0_stop {c : Cl} {r : List Cl} {p q e : Int} (hs : stepV c p = (q, e)) (he : e ≠ 0) : f0 (c :: r) p = ([p], e) := pn_stop rfl hs he
theorem f0_cons {c : Cl} {r : List Cl} {p : Int} {ys : List Int} (h : f0 (c :: r) p = (ys, 0)) : ∃ q zs, stepV c p = (q, 0) ∧ Bd q ∧ f0 r q = (zs, 0) ∧ ys = p :: zs := by
  obtain ⟨q, e, hs⟩ : ∃ q e, stepV c p = (q, e) := ⟨_, _, rfl⟩
  by_cases he : e = 0
  · subst he
    rw [f0_step hs] at h
    injection h with h1 h2
    have hq := stepV_fit c p
    rw [hs] at hq
    exact ⟨q, (f0 r q).1, hs, hq, by rw [← h2], h1.symm⟩
  · rw [f0_stop hs he] at h
    injection h with h1 h2
    exact absurd h2 he
theorem f0_head (l : List Cl) (p : Int) : ∃ zs, (f0 l p).1 = p :: zs := by
  cases l with
  | nil => exact ⟨[], rfl⟩
  | cons c r =>
    obtain ⟨q, e, hs⟩ : ∃ q e, stepV c p = (q, e) := ⟨_, _, rfl⟩
    by_cases he : e = 0
    · subst he; rw [f0_step hs]; exact ⟨_, rfl⟩
    · rw [f0_stop hs he]; exact ⟨_, rfl⟩
theorem pens_of {l : List Cl} {x : Int} (hw : l.any wrongC = false) (hx : Bd x) : pens l [] x = f0 l x := by
  have hf := fit_ok hx.1 hx.2
  unfold pens
  rw [if_neg (by simp [hw]), if_pos hf.2, hf.1]
  rfl
theorem pens_is {l : List Cl} {x : Int} {ys : List Int} (h : pens l [] x = (ys, 0)) : l.any wrongC = false ∧ Bd x ∧ f0 l x = (ys, 0) := by
  have hw : l.any wrongC = false := by
    cases hb : l.any wrongC with
    | false => rfl
    | true =>
      unfold pens at h
      rw [if_pos hb] at h
      injection h with _ h
      cases h
  have hx : Bd x := by
    rcases fit_cases x with h1 | h1
    · exact h1.2.2
    · unfold pens at h
      rw [if_neg (by simp [hw]), if_neg (by rw [h1.1]; decide)] at h
      injection h with _ h
      rw [h1.1] at h
      cases h
  exact ⟨hw, hx, (pens_of hw hx).symm.trans h⟩
theorem any_take {l : List Cl} (h : l.any wrongC = false) (k : Nat) : (l.take k).any wrongC = false :=
  List.any_eq_false.2 fun c hc => List.any_eq_false.1 h c (List.mem_of_mem_take hc)
theorem any_drop {l : List Cl} (h : l.any wrongC = false) (k : Nat) : (l.drop k).any wrongC = false :=
  List.any_eq_false.2 fun c hc => List.any_eq_false.1 h c (List.mem_of_mem_drop hc)
theorem f0_cut : ∀ (k : Nat) (l : List Cl) (p : Int) (ys : List Int), k ≤ l.length → Bd p → f0 l p = (ys, 0) → f0 (l.take k) p = (ys.take (k + 1), 0) ∧ ∃ q, ys[k]? = some q ∧ Bd q ∧ f0 (l.drop k) q = (ys.drop k, 0)
  | 0, l, p, ys, _, hp, h => by
    obtain ⟨zs, hz⟩ := f0_head l p
    rw [h] at hz
    simp only at hz
    subst hz
    exact ⟨rfl, p, rfl, hp, h⟩
  | k + 1, [], p, ys, hk, _, _ => by simp at hk
  | k + 1, c :: r, p, ys, hk, hp, h => by
    obtain ⟨q, zs, hs, hq, hr, rfl⟩ := f0_cons h
    obtain ⟨h1, q2, h2, h3, h4⟩ := f0_cut k r q zs (by simpa using hk) hq hr
    refine ⟨?_, q2, by simpa using h2, h3, by simpa using h4⟩
    rw [List.take_succ_cons, f0_step hs, h1]
    rfl
/-- the pens of a beginning, and of the rest -/
theorem pens_cut {l : List Cl} {x : Int} {ys : List Int} (h : pens l [] x = (ys, 0)) {k : Nat} (hk : k ≤ l.length) :
    pens (l.take k) [] x = (ys.take (k + 1), 0) ∧ ys[0]? = some x ∧ ∃ q, ys[k]? = some q ∧ Bd q ∧ pens (l.drop k) [] q = (ys.drop k, 0) := by
  obtain ⟨hw, hx, hf⟩ := pens_is h
  obtain ⟨h1, q, h2, h3, h4⟩ := f0_cut k l x ys hk hx hf
  obtain ⟨zs, hz⟩ := f0_head l x
  rw [hf] at hz
  simp only at hz
  exact ⟨(pens_of (any_take hw k) hx).trans h1, by rw [hz]; rfl, q, h2, h3, (pens_of (any_drop hw k) h3).trans h4⟩
theorem cut_join (ys : List Int) (k : Nat) : ys.take (k + 1) ++ (ys.drop k).drop 1 = ys := by
  rw [List.drop_drop, List.take_append_drop]

/-! ### one step -/
theorem f0_at : ∀ (l : List Cl) (p : Int) (ys : List Int), Bd p → f0 l p = (ys, 0) → ∀ i c, l[i]? = some c → ∃ a b, ys[i]? = some a ∧ ys[i + 1]? = some b ∧ Bd a ∧ stepV c a = (b, 0)
  | [], _, _, _, _, i, c, hc => by simp at hc
  | d :: r, p, ys, hp, h, i, c, hc => by
    obtain ⟨q, zs, hs, hq, hr, rfl⟩ := f0_cons h
    cases i with
    | zero =>
      simp at hc
      subst hc
      obtain ⟨ws, hw⟩ := f0_head r q
      rw [hr] at hw
      simp only at hw
      subst hw
      exact ⟨p, q, rfl, rfl, hp, hs⟩
    | succ i =>
      obtain ⟨a, b, h1, h2, h3, h4⟩ := f0_at r q zs hq hr i c (by simpa using hc)
      exact ⟨a, b, by simpa using h1, by simpa using h2, h3, h4⟩
theorem step_char {c : Cl} {a b : Int} (hk : c.k ≠ 4) (h : stepV c a = (b, 0)) : b = a + c.adv := by
  unfold stepV at h
  rw [if_neg (by simp [wrongC, hk]), if_neg hk] at h
  injection h with h1 h2
  rcases fit_cases (a + c.adv) with h3 | h3
  · rw [← h1, h3.2.1]
  · rw [h3.1] at h2; cases h2
theorem step_tab {c : Cl} {a b : Int} (hk : c.k = 4) (h : stepV c a = (b, 0)) : 0 ≤ c.adv ∧ (c.adv = 0 → b = a) ∧ (0 < c.adv → b = a + c.adv - a % c.adv) := by
  have hw : wrongC c = false := by
    cases hb : wrongC c with
    | false => rfl
    | true =>
      unfold stepV at h
      rw [if_pos hb] at h
      injection h with _ h
      cases h
  have hd : 0 ≤ c.adv := by simpa [wrongC, hk] using hw
  unfold stepV at h
  rw [if_neg (by simp [hw]), if_pos hk] at h
  rcases fit_cases a with h1 | h1
  · by_cases h0 : c.adv = 0
    · rw [if_neg (by simp [h0])] at h
      injection h with h2 h3
      exact ⟨hd, fun _ => by rw [← h2, h1.2.1], fun h => by omega⟩
    · rw [if_pos ⟨h1.1, h0⟩] at h
      injection h with h2 h3
      refine ⟨hd, fun h => absurd h h0, fun _ => ?_⟩
      rcases fit_cases (a + c.adv - a % c.adv) with h4 | h4
      · rw [← h2, h4.2.1]
      · rw [h4.1] at h3; cases h3
  · rw [if_neg (by rw [h1.1]; simp)] at h
    injection h with _ h3
    rw [h1.1] at h3
    cases h3
theorem tab_facts {a d : Int} (hd : 0 < d) : 1 ≤ a + d - a % d - a ∧ a + d - a % d - a ≤ d ∧ (a + d - a % d).tmod d = 0 := by
  have h1 := Int.emod_nonneg a (show d ≠ 0 by omega)
  have h2 := Int.emod_lt_of_pos a hd
  refine ⟨by omega, by omega, ?_⟩
  have h3 := Int.emod_add_mul_ediv a d
  have e : a + d - a % d = d * (a / d + 1) := by rw [Int.mul_add, Int.mul_one]; omega
  rw [e, Int.mul_tmod_right]

/-! ### bounds -/
theorem step_ok {c : Cl} {p M B : Int} (hw : wrongC c = false) (h1 : -B ≤ p ∧ p ≤ B) (h2 : -M ≤ c.adv ∧ c.adv ≤ M) (hB : B + M ≤ 4611686018427387904) (hM : 0 ≤ M) : ∃ q, stepV c p = (q, 0) ∧ -(B + M) ≤ q ∧ q ≤ B + M := by
  have hf := fit_ok (s := p) (by omega) (by omega)
  unfold stepV
  rw [if_neg (by simp [hw])]
  by_cases hk : c.k = 4
  · rw [if_pos hk]
    have hd : 0 ≤ c.adv := by simpa [wrongC, hk] using hw
    by_cases h0 : c.adv = 0
    · rw [if_neg (by simp [h0]), hf.1, hf.2]
      exact ⟨p, rfl, by omega, by omega⟩
    · rw [if_pos ⟨hf.2, h0⟩]
      have h3 := Int.emod_nonneg p h0
      have h4 := Int.emod_lt_of_pos p (show 0 < c.adv by omega)
      have hg := fit_ok (s := p + c.adv - p % c.adv) (by omega) (by omega)
      rw [hg.1, hg.2]
      exact ⟨_, rfl, by omega, by omega⟩
  · rw [if_neg hk]
    have hg := fit_ok (s := p + c.adv) (by omega) (by omega)
    rw [hg.1, hg.2]
    exact ⟨_, rfl, by omega, by omega⟩
theorem f0_ok (M : Int) (hM : 0 ≤ M) : ∀ (l : List Cl) (p B : Int), l.any wrongC = false → (∀ c ∈ l, -M ≤ c.adv ∧ c.adv ≤ M) → -B ≤ p ∧ p ≤ B → B + l.length * M ≤ 4611686018427387904 → (f0 l p).2 = 0
  | [], _, _, _, _, _, _ => rfl
  | c :: r, p, B, hw, ha, hp, hB => by
    have hl : ((c :: r).length : Int) * M = r.length * M + M := by rw [List.length_cons, Int.natCast_add, Int.add_mul]; simp
    rw [hl] at hB
    have hrM : 0 ≤ (r.length : Int) * M := Int.mul_nonneg (by omega) hM
    have hwc : wrongC c = false := by have := List.any_eq_false.1 hw c (List.mem_cons_self ..); simpa using this
    obtain ⟨q, hs, h1, h2⟩ := step_ok hwc hp (ha c (List.mem_cons_self ..)) (by omega) hM
    rw [f0_step hs]
    exact f0_ok M hM r q (B + M) (List.any_eq_false.2 fun d hd => List.any_eq_false.1 hw d (List.mem_cons_of_mem _ hd)) (fun d hd => ha d (List.mem_cons_of_mem _ hd)) ⟨by omega, h2⟩ (by omega)
theorem f0_len (l : List Cl) (p : Int) (h : (f0 l p).2 = 0) : (f0 l p).1.length = l.length + 1 := (pn_len _ l 0 p).2 h
/-- small rows from small numbers on: no error -/
theorem pens_small {l : List Cl} {x : Int} (hw : l.any wrongC = false) (ha : ∀ c ∈ l, -1099511627776 ≤ c.adv ∧ c.adv ≤ 1099511627776) (hx : -2199023255552 ≤ x ∧ x ≤ 2199023255552) (hl : l.length ≤ 200) : ∃ ys, pens l [] x = (ys, 0) ∧ ys.length = l.length + 1 := by
  have h0 := f0_ok 1099511627776 (by omega) l x 2199023255552 hw ha hx (by omega)
  have hp := pens_of hw (show Bd x from ⟨by omega, by omega⟩)
  refine ⟨(f0 l x).1, ?_, f0_len l x h0⟩
  rw [hp, ← h0]

/-! ### without tabs: further on -/
theorem f0_more : ∀ (l : List Cl) (p m : Int) (ys zs : List Int), (∀ c ∈ l, c.k ≠ 4) → f0 l p = (ys, 0) → f0 l (p + m) = (zs, 0) → ∀ (i : Nat) a b, ys[i]? = some a → zs[i]? = some b → b = a + m
  | [], p, m, ys, zs, _, h1, h2, i, a, b, ha, hb => by
    injection h1 with h1 _
    injection h2 with h2 _
    subst h1 h2
    cases i with
    | zero => simp at ha hb; omega
    | succ i => simp at ha
  | c :: r, p, m, ys, zs, hk, h1, h2, i, a, b, ha, hb => by
    obtain ⟨q1, ws1, hs1, _, hr1, rfl⟩ := f0_cons h1
    obtain ⟨q2, ws2, hs2, _, hr2, rfl⟩ := f0_cons h2
    cases i with
    | zero => simp at ha hb; omega
    | succ i =>
      have e1 := step_char (hk c (List.mem_cons_self ..)) hs1
      have e2 := step_char (hk c (List.mem_cons_self ..)) hs2
      have e : q2 = q1 + m := by omega
      subst e
      exact f0_more r q1 m ws1 ws2 (fun d hd => hk d (List.mem_cons_of_mem _ hd)) hr1 hr2 i a b (by simpa using ha) (by simpa using hb)

/-! ### from a greater number -/
theorem step_le {c : Cl} {p1 p2 q1 q2 : Int} (h : p1 ≤ p2) (h1 : stepV c p1 = (q1, 0)) (h2 : stepV c p2 = (q2, 0)) : q1 ≤ q2 := by
  by_cases hk : c.k = 4
  · obtain ⟨d0, a1, b1⟩ := step_tab hk h1
    obtain ⟨_, a2, b2⟩ := step_tab hk h2
    by_cases h0 : c.adv = 0
    · rw [a1 h0, a2 h0]; exact h
    · rw [b1 (by omega), b2 (by omega)]
      have e1 := Int.emod_add_mul_ediv p1 c.adv
      have e2 := Int.emod_add_mul_ediv p2 c.adv
      have hd : p1 / c.adv ≤ p2 / c.adv := Int.ediv_le_ediv (by omega) h
      have hm : c.adv * (p1 / c.adv) ≤ c.adv * (p2 / c.adv) := Int.mul_le_mul_of_nonneg_left hd d0
      omega
  · have e1 := step_char hk h1
    have e2 := step_char hk h2
    omega
theorem f0_le : ∀ (l : List Cl) (p1 p2 : Int) (ys zs : List Int), p1 ≤ p2 → f0 l p1 = (ys, 0) → f0 l p2 = (zs, 0) → ∀ (i : Nat) a b, ys[i]? = some a → zs[i]? = some b → a ≤ b
  | [], p1, p2, ys, zs, hp, h1, h2, i, a, b, ha, hb => by
    injection h1 with h1 _
    injection h2 with h2 _
    subst h1 h2
    cases i with
    | zero => simp at ha hb; omega
    | succ i => simp at ha
  | c :: r, p1, p2, ys, zs, hp, h1, h2, i, a, b, ha, hb => by
    obtain ⟨q1, ws1, hs1, _, hr1, rfl⟩ := f0_cons h1
    obtain ⟨q2, ws2, hs2, _, hr2, rfl⟩ := f0_cons h2
    cases i with
    | zero => simp at ha hb; omega
    | succ i => exact f0_le r q1 q2 ws1 ws2 (step_le hp hs1 hs2) hr1 hr2 i a b (by simpa using ha) (by simpa using hb)

/-! ### what is taken out -/
def lft (g : Nat → Bool) : List Cl → Nat → List Cl
  | [], _ => []
  | c :: r, i => if g i = true then lft g r (i + 1) else c :: lft g r (i + 1)
def cnt (g : Nat → Bool) : Nat → Nat → Nat
  | _, 0 => 0
  | i, j + 1 => (if g i = true then 0 else 1) + cnt g (i + 1) j
theorem lft_snoc (g : Nat → Bool) : ∀ (l : List Cl) (i : Nat) (c : Cl), lft g (l ++ [c]) i = if g (i + l.length) = true then lft g l i else lft g l i ++ [c]
  | [], i, c => by
    show (if g i = true then [] else [c]) = _
    simp [lft]
  | d :: r, i, c => by
    have ih := lft_snoc g r (i + 1) c
    have e : i + (d :: r).length = i + 1 + r.length := by simp; omega
    rw [e]
    show (if g i = true then lft g (r ++ [c]) (i + 1) else d :: lft g (r ++ [c]) (i + 1)) = if g (i + 1 + r.length) = true then (if g i = true then lft g r (i + 1) else d :: lft g r (i + 1)) else (if g i = true then lft g r (i + 1) else d :: lft g r (i + 1)) ++ [c]
    rw [ih]
    split <;> split <;> rfl
theorem cnt_snoc (g : Nat → Bool) : ∀ (j i : Nat), cnt g i (j + 1) = cnt g i j + (if g (i + j) = true then 0 else 1)
  | 0, i => by simp [cnt]
  | j + 1, i => by
    have ih := cnt_snoc g j (i + 1)
    show (if g i = true then 0 else 1) + cnt g (i + 1) (j + 1) = (if g i = true then 0 else 1) + cnt g (i + 1) j + _
    rw [ih, show i + 1 + j = i + (j + 1) by omega, Nat.add_assoc]
theorem lft_len (g : Nat → Bool) : ∀ (l : List Cl) (i : Nat), (lft g l i).length = cnt g i l.length
  | [], _ => rfl
  | c :: r, i => by
    show (if g i = true then lft g r (i + 1) else c :: lft g r (i + 1)).length = (if g i = true then 0 else 1) + cnt g (i + 1) r.length
    rw [← lft_len g r (i + 1)]
    split
    · omega
    · simp; omega
theorem cnt_le (g : Nat → Bool) : ∀ (j i : Nat), cnt g i j ≤ j
  | 0, _ => Nat.le_refl _
  | j + 1, i => by
    have := cnt_le g j (i + 1)
    show (if g i = true then 0 else 1) + cnt g (i + 1) j ≤ j + 1
    split <;> omega
theorem cnt_mono (g : Nat → Bool) (i : Nat) : ∀ (j d : Nat), cnt g i j ≤ cnt g i (j + d)
  | _, 0 => Nat.le_refl _
  | j, d + 1 => by
    have := cnt_mono g i j d
    rw [← Nat.add_assoc, cnt_snoc]
    omega
theorem pn_left (g : Nat → Bool) : ∀ (l : List Cl) (i : Nat) (p : Int), (pn g l i p).2 = (f0 (lft g l i) p).2 ∧ ((pn g l i p).2 = 0 → ∀ j, j ≤ l.length → (pn g l i p).1[j]? = (f0 (lft g l i) p).1[cnt g i j]?)
  | [], i, p => ⟨rfl, fun _ j hj => by
    obtain rfl : j = 0 := by simpa using hj
    rfl⟩
  | c :: r, i, p => by
    by_cases hg : g i = true
    · rw [pn_gone hg, show lft g (c :: r) i = lft g r (i + 1) from if_pos hg]
      obtain ⟨h1, h2⟩ := pn_left g r (i + 1) p
      refine ⟨h1, fun h j hj => ?_⟩
      cases j with
      | zero =>
        obtain ⟨zs, hz⟩ := f0_head (lft g r (i + 1)) p
        rw [hz]
        rfl
      | succ j =>
        rw [show cnt g i (j + 1) = cnt g (i + 1) j by show (if g i = true then 0 else 1) + _ = _; rw [if_pos hg]; omega]
        simpa using h2 h j (by simpa using hj)
    · have hg' : g i = false := by simpa using hg
      rw [show lft g (c :: r) i = c :: lft g r (i + 1) from if_neg hg]
      obtain ⟨q, e, hs⟩ : ∃ q e, stepV c p = (q, e) := ⟨_, _, rfl⟩
      by_cases he : e = 0
      · subst he
        rw [pn_step hg' hs, f0_step hs]
        obtain ⟨h1, h2⟩ := pn_left g r (i + 1) q
        refine ⟨h1, fun h j hj => ?_⟩
        cases j with
        | zero => rfl
        | succ j =>
          rw [show cnt g i (j + 1) = cnt g (i + 1) j + 1 by show (if g i = true then 0 else 1) + _ = _; rw [if_neg hg]; omega]
          simpa using h2 h j (by simpa using hj)
      · rw [pn_stop hg' hs he, f0_stop hs he]
        exact ⟨rfl, fun h => absurd h he⟩
theorem lft_mem (g : Nat → Bool) : ∀ (l : List Cl) (i : Nat) (c : Cl), c ∈ lft g l i → c ∈ l
  | [], _, _, h => h
  | d :: r, i, c, h => by
    have h' : c ∈ (if g i = true then lft g r (i + 1) else d :: lft g r (i + 1)) := h
    split at h'
    · exact List.mem_cons_of_mem _ (lft_mem g r (i + 1) c h')
    · rcases List.mem_cons.1 h' with rfl | h'
      · exact List.mem_cons_self ..
      · exact List.mem_cons_of_mem _ (lft_mem g r (i + 1) c h')
/-- without what is taken out -/
theorem pens_left {l : List Cl} {rs : List Int} {x E : Int} {ys : List Int} (h : pens l rs x = (ys, E)) : (E = 0 → ∃ zs, pens (lft (gone rs) l 0) [] x = (zs, 0) ∧ ys.length = l.length + 1 ∧ zs.length = (lft (gone rs) l 0).length + 1 ∧ ∀ j, j ≤ l.length → ys[j]? = zs[cnt (gone rs) 0 j]?) ∧
    (E ≠ 0 → E ≠ 2 → ∃ zs E2, pens (lft (gone rs) l 0) [] x = (zs, E2) ∧ E2 ≠ 0) := by
  have hlen := pens_len l rs x
  rw [h] at hlen
  unfold pens at h
  by_cases hw : l.any wrongC = true
  · rw [if_pos hw] at h
    injection h with h1 h2
    exact ⟨fun h => absurd h (by omega), fun _ h => absurd h2.symm h⟩
  · have hw' : l.any wrongC = false := by simpa using hw
    have hlw : (lft (gone rs) l 0).any wrongC = false := List.any_eq_false.2 fun c hc => List.any_eq_false.1 hw' c (lft_mem _ l 0 c hc)
    rw [if_neg hw] at h
    rcases fit_cases x with h1 | h1
    · rw [if_pos h1.1, h1.2.1] at h
      have hp := pens_of hlw (show Bd x from h1.2.2)
      obtain ⟨h2, h3⟩ := pn_left (gone rs) l 0 x
      rw [h] at h2 h3
      refine ⟨fun he => ?_, fun he _ => ⟨_, _, hp, ?_⟩⟩
      · subst he
        refine ⟨(f0 (lft (gone rs) l 0) x).1, ?_, hlen.2 rfl, f0_len _ _ h2.symm, fun j hj => h3 rfl j hj⟩
        rw [hp]
        simp only at h2
        exact Prod.ext rfl h2.symm
      · exact fun e => he (h2.trans e)
    · rw [if_neg (by rw [h1.1]; decide)] at h
      injection h with h2 h3
      subst h3
      refine ⟨fun h => (by rw [h1.1] at h; cases h), fun _ _ => ⟨[], fitE x, ?_, by rw [h1.1]; decide⟩⟩
      unfold pens
      rw [if_neg (by simp [hlw]), if_neg (by rw [h1.1]; decide)]
end Go.Proofs.Ytddihpiheopleaa.Ta
