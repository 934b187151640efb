/- Plain facts on white space, collapsed: what stands beside what, and that once is as twice. No walk of code. -/
import Derived.Test.YtejcfhfmdijimaaDoorWhMath
namespace Go.Proofs.YtejcfhfmdijimaaDoor.Wh

section
variable {W : Int → Int} {D : Int → Bool}
/-- each one, and the next one -/
def Adj (R : Cr → Cr → Prop) : List Cr → Prop
  | [] => True
  | [_] => True
  | a :: b :: l => R a b ∧ Adj R (b :: l)
theorem Adj.tail {R : Cr → Cr → Prop} {a : Cr} : ∀ {l : List Cr}, Adj R (a :: l) → Adj R l
  | [], _ => trivial
  | _ :: _, h => h.2
theorem Adj.cons {R : Cr → Cr → Prop} {a b : Cr} {l : List Cr} (h : R a b) (h2 : Adj R (b :: l)) : Adj R (a :: b :: l) := ⟨h, h2⟩

theorem is_two {c : Cr} {r s : Int} (h : is c r = true) (h2 : is c s = true) : r = s := by
  simp only [is, Bool.and_eq_true, decide_eq_true_eq] at h h2
  omega
theorem wht_not {c : Cr} (h : wht W c = true) : endc c = false := by
  cases he : endc c with
  | false => rfl
  | true =>
    simp only [wht, endc, Bool.and_eq_true, Bool.or_eq_true] at h he
    rcases h.2 with h1 | h1 <;> rcases he with h2 | h2 <;> exact absurd (is_two h1 h2) (by decide)
theorem endc_not {c : Cr} (h : endc c = true) : wht W c = false := by
  cases hw : wht W c with
  | false => rfl
  | true => rw [wht_not hw] at h; cases h

/-! ### step 2 -/
def Q2 (W : Int → Int) (x y : Cr) : Prop := ¬ (wht W x = true ∧ endc y = true) ∧ ¬ (endc x = true ∧ wht W y = true)
/-- where step 2 stands: 'c': the one ahead; 'x': the last one that stayed -/
inductive At2 (W : Int → Int) (b : Bool) (l : List Cr) (x c : Cr) : Prop
  | other : wht W c = false → x = c → b = endc c → At2 W b l x c
  | stayed : wht W x = true → b = false → nextEnd W l = false → At2 W b l x c
  | gone : wht W x = false → b = endc x → (b = false → nextEnd W l = true) → At2 W b l x c
theorem around_adj : ∀ (l : List Cr) (b : Bool) (x c : Cr), At2 W b l x c → Adj (Q2 W) (x :: around W b l) := by
  intro l
  induction l with
  | nil => intro b x c _; trivial
  | cons y l ih =>
    intro b x c h
    unfold around
    cases hy : wht W y with
    | true =>
      rw [if_pos rfl]
      have hn : nextEnd W (y :: l) = nextEnd W l := by rw [nextEnd, if_pos hy]
      split
      · rename_i hr
        refine ih b x y ?_
        rcases h with ⟨h1, rfl, h3⟩ | ⟨h1, h2, h3⟩ | ⟨h1, h2, h3⟩
        · refine .gone h1 h3 fun hb => ?_
          rw [hb, Bool.false_or] at hr
          exact hr
        · rw [hn] at h3
          rw [h2, h3] at hr
          cases hr
        · exact .gone h1 h2 fun hb => by rw [← hn]; exact h3 hb
      · rename_i hr
        have hr : b = false ∧ nextEnd W l = false := by
          cases b <;> cases hq : nextEnd W l <;> simp_all
        refine Adj.cons ⟨fun h5 => ?_, fun h5 => ?_⟩ (ih b y y (.stayed hy hr.1 hr.2))
        · rw [wht_not hy] at h5; cases h5.2
        · rcases h with ⟨h1, rfl, h3⟩ | ⟨h1, h2, h3⟩ | ⟨h1, h2, h3⟩
          · rw [← h3, hr.1] at h5; cases h5.1
          · rw [wht_not h1] at h5; cases h5.1
          · rw [← h2, hr.1] at h5; cases h5.1
    | false =>
      rw [if_neg (by simp)]
      refine Adj.cons ⟨fun h5 => ?_, fun h5 => ?_⟩ (ih _ y y (.other hy rfl rfl))
      · rcases h with ⟨h1, rfl, h3⟩ | ⟨h1, h2, h3⟩ | ⟨h1, h2, h3⟩
        · rw [h1] at h5; cases h5.1
        · rw [nextEnd, hy] at h3
          simp only [Bool.false_eq_true, if_false] at h3
          rw [h3] at h5; cases h5.2
        · rw [h1] at h5; cases h5.1
      · rw [hy] at h5; cases h5.2

/-! ### step 3, its first half -/
def Q3 (W : Int → Int) (x y : Cr) : Prop := Q2 W x y ∧ ¬ (soft W x = true ∧ endc y = true) ∧ ¬ (endc x = true ∧ soft W y = true)
inductive At3 (W : Int → Int) (b p : Bool) (l : List Cr) (x c : Cr) : Prop
  | other : soft W c = false → x = c → b = endc c → p = false → At3 W b p l x c
  | stayed : soft W c = true → soft W x = true → p = true → b = false → nextHard W l = false → At3 W b p l x c
  | gone : soft W c = true → soft W x = false → wht W x = false → p = true → b = endc x → (b = false → nextHard W l = true) → At3 W b p l x c
theorem several_adj : ∀ (l : List Cr) (b p : Bool) (x c : Cr), At3 W b p l x c → Adj (Q2 W) (c :: l) → Adj (Q3 W) (x :: several W b p l) := by
  intro l
  induction l with
  | nil => intro b p x c _ _; trivial
  | cons y l ih =>
    intro b p x c h hA
    obtain ⟨⟨q1, q2⟩, hA2⟩ := hA
    unfold several
    cases hy : soft W y with
    | true =>
      rw [if_pos rfl]
      have hn : nextHard W (y :: l) = nextHard W l := by rw [nextHard, if_pos hy]
      have hye := soft_endc hy
      split
      · rename_i hr
        refine ih b true x y ?_ hA2
        rcases h with ⟨h1, rfl, h3, h4⟩ | ⟨h1, h2, h3, h4, h5⟩ | ⟨h1, h2, h3, h4, h5, h6⟩
        · refine .gone hy h1 ?_ rfl h3 fun hb => ?_
          · cases hw : wht W x with
            | false => rfl
            | true => exact absurd ⟨hw, hye⟩ q1
          · rw [hb, h4, Bool.false_or, Bool.or_false] at hr
            exact hr
        · exact .stayed hy h2 rfl h4 (by rw [← hn]; exact h5)
        · exact .gone hy h2 h3 rfl h5 fun hb => by rw [← hn]; exact h6 hb
      · rename_i hr
        have hr : b = false ∧ nextHard W l = false ∧ p = false := by
          cases b <;> cases p <;> cases hq : nextHard W l <;> simp_all
        obtain ⟨r1, r2, r3⟩ := hr
        rcases h with ⟨h1, rfl, h3, h4⟩ | ⟨h1, h2, h3, h4, h5⟩ | ⟨h1, h2, h3, h4, h5, h6⟩
        · refine Adj.cons ⟨⟨q1, q2⟩, fun h => ?_, fun h => ?_⟩ (ih b true y y (.stayed hy hy rfl r1 r2) hA2)
          · rw [h1] at h; cases h.1
          · rw [← h3, r1] at h; cases h.1
        · rw [h3] at r3; cases r3
        · rw [h4] at r3; cases r3
    | false =>
      rw [if_neg (by simp)]
      refine Adj.cons ?_ (ih _ false y y (.other hy rfl rfl rfl) hA2)
      rcases h with ⟨h1, rfl, h3, h4⟩ | ⟨h1, h2, h3, h4, h5⟩ | ⟨h1, h2, h3, h4, h5, h6⟩
      · exact ⟨⟨q1, q2⟩, fun h => by (rw [h1] at h; cases h.1), fun h => by (rw [hy] at h; cases h.2)⟩
      · rw [nextHard, hy] at h5
        simp only [Bool.false_eq_true, if_false] at h5
        exact ⟨⟨fun h => by (rw [h5] at h; cases h.2), fun h => q2 ⟨soft_endc h1, h.2⟩⟩, fun h => by (rw [h5] at h; cases h.2), fun h => by (rw [hy] at h; cases h.2)⟩
      · exact ⟨⟨fun h => by (rw [h3] at h; cases h.1), fun h => q2 ⟨soft_endc h1, h.2⟩⟩, fun h => by (rw [h2] at h; cases h.1), fun h => by (rw [hy] at h; cases h.2)⟩

/-! ### its second half, and steps 4 and 5 -/
/-- a break that was a line end -/
def Lk (c : Cr) : Prop := c.kind = 5 ∧ c.r = 10
theorem wht_kind {c : Cr} (h : wht W c = true) : c.kind = 0 := by
  simp only [wht, is, Bool.and_eq_true, Bool.or_eq_true, decide_eq_true_eq] at h
  rcases h.2 with h | h <;> exact h.1
theorem endc_kind {c : Cr} (h : endc c = true) : c.kind = 0 := by
  simp only [endc, is, Bool.and_eq_true, Bool.or_eq_true, decide_eq_true_eq] at h
  rcases h with h | h <;> exact h.1
theorem turn_wht {c : Cr} (h : wht W (turn W c) = true) : (wht W c = true ∨ soft W c = true) ∧ (turn W c).r = 32 := by
  unfold turn at h ⊢
  split at h
  · rename_i hs
    rw [if_pos hs]
    exact ⟨.inr hs, rfl⟩
  · rename_i hs
    rw [if_neg hs]
    split at h
    · exact absurd (wht_kind h) (show ¬ (5 : Int) = 0 by decide)
    · rename_i he
      rw [if_neg he]
      split at h
      · rename_i hw
        rw [if_pos hw]
        exact ⟨.inl hw, rfl⟩
      · rename_i hw
        exact absurd h hw
theorem turn_lk {c : Cr} (hm : c.kind = 5 → c.r ≠ 10) (h : Lk (turn W c)) : endc c = true ∧ soft W c = false := by
  unfold turn at h
  split at h
  · rename_i hs
    have := endc_kind (soft_endc hs)
    have h1 := h.1
    simp only [this] at h1
    omega
  · rename_i hs
    split at h
    · rename_i he
      exact ⟨he, by simpa using hs⟩
    · split at h
      · rename_i hw
        have := wht_kind hw
        have h1 := h.1
        simp only [this] at h1
        omega
      · exact absurd h.2 (hm h.1)
theorem is_of {c : Cr} {r s : Int} (h : is c r = true) (hc : c.r = s) : r = s := by
  simp only [is, Bool.and_eq_true, decide_eq_true_eq] at h
  omega
theorem turn_end (c : Cr) : endc (turn W c) = false := by
  unfold turn
  split
  · simp [endc, is]
  · split
    · simp [endc, is]
    · rename_i he
      split
      · simp [endc, is]
      · simpa using he
def Q4 (W : Int → Int) (x y : Cr) : Prop := ¬ (wht W x = true ∧ Lk y) ∧ ¬ (Lk x ∧ wht W y = true)
theorem turned_adj : ∀ (l : List Cr) (x p : Cr), (∀ c ∈ l, c.kind = 5 → c.r ≠ 10) → (x.kind = 5 → x.r ≠ 10) → (x = p ∨ soft W p = true ∧ wht W x = false ∧ endc x = false) → Adj (Q3 W) (p :: l) → Adj (Q4 W) (turn W x :: turned W D (some p) l) := by
  intro l
  induction l with
  | nil => intro x p _ _ _ _; trivial
  | cons y l ih =>
    intro x p hm hx hc hA
    obtain ⟨⟨⟨q1, q2⟩, q3, q4⟩, hA2⟩ := hA
    have hml : ∀ c ∈ l, c.kind = 5 → c.r ≠ 10 := fun c hc => hm c (List.mem_cons_of_mem _ hc)
    have hmy := hm y (List.mem_cons_self ..)
    unfold turned
    split
    · rename_i hr
      simp only [Bool.and_eq_true] at hr
      have hye := soft_endc hr.1
      refine ih x y hml hx (.inr ?_) hA2
      rcases hc with rfl | ⟨h1, h2, h3⟩
      · refine ⟨hr.1, ?_, ?_⟩
        · cases hw : wht W x with
          | false => rfl
          | true => exact absurd ⟨hw, hye⟩ q1
        · cases hw : endc x with
          | false => rfl
          | true => exact absurd ⟨hw, hr.1⟩ q4
      · exact ⟨hr.1, h2, h3⟩
    · refine Adj.cons ?_ (ih y y hml hmy (.inl rfl) hA2)
      rcases hc with rfl | ⟨h1, h2, h3⟩
      · refine ⟨fun ⟨h1, h2⟩ => ?_, fun ⟨h1, h2⟩ => ?_⟩
        · have he := (turn_lk hmy h2).1
          rcases (turn_wht h1).1 with h | h
          · exact q1 ⟨h, he⟩
          · exact q3 ⟨h, he⟩
        · have he := (turn_lk hx h1).1
          rcases (turn_wht h2).1 with h | h
          · exact q2 ⟨he, h⟩
          · exact q4 ⟨he, h⟩
      · refine ⟨fun ⟨h4, h5⟩ => ?_, fun ⟨h4, h5⟩ => ?_⟩
        · rcases (turn_wht h4).1 with h | h
          · rw [h2] at h; cases h
          · rw [soft_endc h] at h3; cases h3
        · rw [(turn_lk hx h4).1] at h3; cases h3

/-! ### step 6 -/
def Q6 (W : Int → Int) (x y : Cr) : Prop := Q4 W x y ∧ ¬ (wht W x = true ∧ wht W y = true)
theorem rows_adj : ∀ (l : List Cr) (x c : Cr), (x = c ∨ wht W x = true ∧ wht W c = true) → Adj (Q4 W) (c :: l) → Adj (Q6 W) (x :: rows W (wht W c) l) := by
  intro l
  induction l with
  | nil => intro x c _ _; trivial
  | cons y l ih =>
    intro x c hc hA
    obtain ⟨⟨q1, q2⟩, hA2⟩ := hA
    unfold rows
    split
    · rename_i hr
      simp only [Bool.and_eq_true] at hr
      have hx : wht W x = true := by
        rcases hc with rfl | h
        · exact hr.2
        · exact h.1
      have := ih x y (.inr ⟨hx, hr.1⟩) hA2
      rwa [hr.1] at this
    · rename_i hr
      have hr : ¬ (wht W y = true ∧ wht W c = true) := by simpa using hr
      refine Adj.cons ?_ (ih y y (.inl rfl) hA2)
      rcases hc with rfl | ⟨h1, h2⟩
      · exact ⟨⟨q1, q2⟩, fun h => hr ⟨h.2, h.1⟩⟩
      · exact ⟨⟨fun h => q1 ⟨h2, h.2⟩, fun h => by (have := wht_kind h1; have := h.1.1; omega)⟩, fun h => hr ⟨h.2, h2⟩⟩

/-! ### who is left -/
theorem mem_pairs {c : Cr} : ∀ {l : List Cr}, c ∈ pairs l → c ∈ l
  | [], h => h
  | d :: l, h => by
    unfold pairs at h
    split at h
    · exact List.mem_cons_of_mem _ (mem_pairs h)
    · rcases List.mem_cons.1 h with rfl | h
      · exact List.mem_cons_self ..
      · exact List.mem_cons_of_mem _ (mem_pairs h)
theorem mem_around {c : Cr} : ∀ {l : List Cr} {b : Bool}, c ∈ around W b l → c ∈ l
  | [], _, h => h
  | d :: l, b, h => by
    unfold around at h
    split at h
    · split at h
      · exact List.mem_cons_of_mem _ (mem_around h)
      · rcases List.mem_cons.1 h with rfl | h
        · exact List.mem_cons_self ..
        · exact List.mem_cons_of_mem _ (mem_around h)
    · rcases List.mem_cons.1 h with rfl | h
      · exact List.mem_cons_self ..
      · exact List.mem_cons_of_mem _ (mem_around h)
theorem mem_several {c : Cr} : ∀ {l : List Cr} {b p : Bool}, c ∈ several W b p l → c ∈ l
  | [], _, _, h => h
  | d :: l, b, p, h => by
    unfold several at h
    split at h
    · split at h
      · exact List.mem_cons_of_mem _ (mem_several h)
      · rcases List.mem_cons.1 h with rfl | h
        · exact List.mem_cons_self ..
        · exact List.mem_cons_of_mem _ (mem_several h)
    · rcases List.mem_cons.1 h with rfl | h
      · exact List.mem_cons_self ..
      · exact List.mem_cons_of_mem _ (mem_several h)
theorem mem_turned {d : Cr} : ∀ {l : List Cr} {p : Option Cr}, d ∈ turned W D p l → ∃ c ∈ l, d = turn W c
  | [], _, h => by cases h
  | e :: l, p, h => by
    unfold turned at h
    split at h
    · obtain ⟨c, h1, h2⟩ := mem_turned h
      exact ⟨c, List.mem_cons_of_mem _ h1, h2⟩
    · rcases List.mem_cons.1 h with rfl | h
      · exact ⟨e, List.mem_cons_self .., rfl⟩
      · obtain ⟨c, h1, h2⟩ := mem_turned h
        exact ⟨c, List.mem_cons_of_mem _ h1, h2⟩
theorem mem_rows {c : Cr} : ∀ {l : List Cr} {p : Bool}, c ∈ rows W p l → c ∈ l
  | [], _, h => h
  | d :: l, p, h => by
    unfold rows at h
    split at h
    · exact List.mem_cons_of_mem _ (mem_rows h)
    · rcases List.mem_cons.1 h with rfl | h
      · exact List.mem_cons_self ..
      · exact List.mem_cons_of_mem _ (mem_rows h)

/-- a list ahead of step 7 -/
structure Six (W : Int → Int) (l : List Cr) : Prop where
  ends : ∀ c ∈ l, endc c = false
  sp : ∀ c ∈ l, wht W c = true → c.r = 32
  lk : ∀ c ∈ l, Lk c → ¬ (W c.node = 0 ∨ W c.node = 1)
  kind : ∀ c ∈ l, c.kind = 0 ∨ c.kind = 5 ∨ c.kind = 6
  adj : Adj (Q6 W) l
theorem turn_kind {c : Cr} (h : c.kind = 0 ∨ c.kind = 5 ∨ c.kind = 6) : (turn W c).kind = 0 ∨ (turn W c).kind = 5 ∨ (turn W c).kind = 6 := by
  unfold turn
  split
  · exact h
  · split
    · exact .inr (.inl rfl)
    · split <;> exact h
theorem six (l : List Cr) (hk : ∀ c ∈ l, c.kind = 0 ∨ c.kind = 5 ∨ c.kind = 6) (hm : ∀ c ∈ l, c.kind = 5 → c.r ≠ 10) : Six W (s6 W D l) := by
  have hl3 : ∀ c ∈ s3 W l, c ∈ l := fun c h => mem_pairs (mem_around (mem_several h))
  have a2 : Adj (Q2 W) (atom :: s2 W l) := around_adj (pairs l) false atom atom (.other wht_atom rfl rfl)
  have a3 : Adj (Q3 W) (atom :: s3 W l) := several_adj (s2 W l) false false atom atom (.other soft_atom rfl rfl rfl) a2
  have a4 : Adj (Q4 W) (atom :: s4 W D l) := by
    have := turned_adj (D := D) (s3 W l) atom atom (fun c h => hm c (hl3 c h)) (by decide) (.inl rfl) a3
    rwa [turn_atom, turned_atomL] at this
  have a6 : Adj (Q6 W) (atom :: s6 W D l) := by
    have := rows_adj (s4 W D l) atom atom (.inl rfl) a4
    rwa [wht_atom] at this
  have hmem : ∀ d ∈ s6 W D l, ∃ c ∈ l, d = turn W c := fun d h => by
    obtain ⟨c, h1, h2⟩ := mem_turned (mem_rows h)
    exact ⟨c, hl3 c h1, h2⟩
  refine ⟨fun d h => ?_, fun d h hw => ?_, fun d h hL => ?_, fun d h => ?_, a6.tail⟩
  · obtain ⟨c, _, rfl⟩ := hmem d h
    exact turn_end c
  · obtain ⟨c, _, rfl⟩ := hmem d h
    exact (turn_wht hw).2
  · obtain ⟨c, hc, rfl⟩ := hmem d h
    obtain ⟨h1, h2⟩ := turn_lk (hm c hc) hL
    rw [(turn_node c).1]
    intro h3
    have : soft W c = true := by simp [soft, h1, h3]
    rw [h2] at this
    cases this
  · obtain ⟨c, hc, rfl⟩ := hmem d h
    exact turn_kind (hk c hc)
end
end Go.Proofs.YtejcfhfmdijimaaDoor.Wh
