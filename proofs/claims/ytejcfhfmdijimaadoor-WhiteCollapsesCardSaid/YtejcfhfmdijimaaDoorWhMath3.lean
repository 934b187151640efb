/- Plain facts on white space, collapsed: spaces stand alone; once is as twice; where all is kept, all stays. No walk of code. -/
import Derived.Test.YtejcfhfmdijimaaDoorWhMath2
namespace Go.Proofs.YtejcfhfmdijimaaDoor.Wh

section
variable {W : Int → Int} {D : Int → Bool}
theorem Adj.map {R S : Cr → Cr → Prop} (f : Cr → Cr) : ∀ {l : List Cr}, (∀ x ∈ l, ∀ y ∈ l, R x y → S (f x) (f y)) → Adj R l → Adj S (l.map f)
  | [], _, _ => trivial
  | [_], _, _ => trivial
  | a :: b :: l, h, hA => ⟨h a (List.mem_cons_self ..) b (List.mem_cons_of_mem _ (List.mem_cons_self ..)) hA.1, Adj.map f (l := b :: l) (fun x hx y hy => h x (List.mem_cons_of_mem _ hx) y (List.mem_cons_of_mem _ hy)) hA.2⟩
theorem Adj.at_ {R : Cr → Cr → Prop} : ∀ {l : List Cr}, Adj R l → ∀ i x y, l[i]? = some x → l[i + 1]? = some y → R x y
  | [], _, i, x, y, h, _ => by simp at h
  | [_], _, i, x, y, _, h => by simp at h
  | a :: b :: l, hA, 0, x, y, h1, h2 => by
    simp at h1 h2
    subst h1 h2
    exact hA.1
  | a :: b :: l, hA, i + 1, x, y, h1, h2 => Adj.at_ (l := b :: l) hA.2 i x y (by simpa using h1) (by simpa using h2)

/-! ### P8.4 -/
theorem is_kind {c : Cr} {r : Int} (h : is c r = true) : c.kind = 0 := by
  simp only [is, Bool.and_eq_true, decide_eq_true_eq] at h
  exact h.1
theorem is_r {c : Cr} {r : Int} (h : is c r = true) : c.r = r := by
  simp only [is, Bool.and_eq_true, decide_eq_true_eq] at h
  exact h.2
theorem kindOf_cases (c : Cr) : (wht W c = true ∧ kindOf W c = { c with kind := 1 }) ∨ (wht W c = false ∧ is c 9 = true ∧ kindOf W c = { c with kind := 4 }) ∨
    (wht W c = false ∧ is c 9 = false ∧ is c 32 = true ∧ W c.node = 3 ∧ kindOf W c = { c with kind := 2 }) ∨ (wht W c = false ∧ is c 9 = false ∧ is c 32 = true ∧ W c.node ≠ 3 ∧ kindOf W c = { c with kind := 3 }) ∨ (wht W c = false ∧ is c 9 = false ∧ is c 32 = false ∧ kindOf W c = c) := by
  unfold kindOf
  cases h1 : wht W c with
  | true => exact .inl ⟨rfl, by simp⟩
  | false =>
    cases h2 : is c 9 with
    | true => exact .inr (.inl ⟨rfl, rfl, by simp⟩)
    | false =>
      cases h3 : is c 32 with
      | true =>
        by_cases h4 : W c.node = 3
        · exact .inr (.inr (.inl ⟨rfl, rfl, rfl, h4, by simp [h4]⟩))
        · exact .inr (.inr (.inr (.inl ⟨rfl, rfl, rfl, h4, by simp [h4]⟩)))
      | false => exact .inr (.inr (.inr (.inr ⟨rfl, rfl, rfl, by simp⟩)))
theorem kindOf_one {c : Cr} (hk : c.kind = 0 ∨ c.kind = 5 ∨ c.kind = 6) (h : (kindOf W c).kind = 1) : wht W c = true := by
  rcases kindOf_cases (W := W) c with ⟨h1, _⟩ | ⟨_, _, e⟩ | ⟨_, _, _, _, e⟩ | ⟨_, _, _, _, e⟩ | ⟨_, _, _, e⟩
  · exact h1
  · rw [e] at h; exact absurd h (show ¬ (4 : Int) = 1 by decide)
  · rw [e] at h; exact absurd h (show ¬ (2 : Int) = 1 by decide)
  · rw [e] at h; exact absurd h (show ¬ (3 : Int) = 1 by decide)
  · rw [e] at h; omega
theorem kindOf_lk {c : Cr} (h : Lk (kindOf W c)) : Lk c := by
  rcases kindOf_cases (W := W) c with ⟨_, e⟩ | ⟨_, _, e⟩ | ⟨_, _, _, _, e⟩ | ⟨_, _, _, _, e⟩ | ⟨_, _, _, e⟩
  · rw [e] at h; exact absurd h.1 (show ¬ (1 : Int) = 5 by decide)
  · rw [e] at h; exact absurd h.1 (show ¬ (4 : Int) = 5 by decide)
  · rw [e] at h; exact absurd h.1 (show ¬ (2 : Int) = 5 by decide)
  · rw [e] at h; exact absurd h.1 (show ¬ (3 : Int) = 5 by decide)
  · rwa [e] at h
theorem blank_false {c : Cr} (h : c.kind ≠ 0 ∨ (is c 32 = false ∧ is c 9 = false ∧ endc c = false)) : blank c = false := by
  cases hb : blank c with
  | false => rfl
  | true =>
    simp only [blank, Bool.and_eq_true, Bool.or_eq_true, decide_eq_true_eq] at hb
    obtain ⟨h0, hr⟩ := hb
    rcases h with h | ⟨h1, h2, h3⟩
    · exact absurd h0 h
    · have f : ∀ r, c.r = r → is c r = true := fun r hr => by simp [is, h0, hr]
      rcases hr with ((hr | hr) | hr) | hr
      · rw [f _ hr] at h1; cases h1
      · rw [f _ hr] at h2; cases h2
      · simp only [endc, f _ hr, Bool.true_or] at h3; cases h3
      · simp only [endc, f _ hr, Bool.or_true] at h3; cases h3
theorem kindOf_blank {c : Cr} (he : endc c = false) : blank (kindOf W c) = false := by
  rcases kindOf_cases (W := W) c with ⟨_, e⟩ | ⟨_, _, e⟩ | ⟨_, _, _, _, e⟩ | ⟨_, _, _, _, e⟩ | ⟨_, h2, h3, e⟩
  · rw [e]; exact blank_false (.inl (show ¬ (1 : Int) = 0 by decide))
  · rw [e]; exact blank_false (.inl (show ¬ (4 : Int) = 0 by decide))
  · rw [e]; exact blank_false (.inl (show ¬ (2 : Int) = 0 by decide))
  · rw [e]; exact blank_false (.inl (show ¬ (3 : Int) = 0 by decide))
  · rw [e]; exact blank_false (.inr ⟨h3, h2, he⟩)
/-- what may stand beside what, collapsed -/
def QA (x y : Cr) : Prop := ¬ (y.kind = 1 ∧ (x.kind = 1 ∨ Lk x)) ∧ ¬ (x.kind = 1 ∧ Lk y)
theorem alone (l : List Cr) (hk : ∀ c ∈ l, c.kind = 0 ∨ c.kind = 5 ∨ c.kind = 6) (hm : ∀ c ∈ l, c.kind = 5 → c.r ≠ 10) : (∀ d ∈ collapse W D l, blank d = false) ∧ Adj QA (collapse W D l) := by
  have h6 := six (W := W) (D := D) l hk hm
  refine ⟨fun d hd => ?_, ?_⟩
  · obtain ⟨c, hc, rfl⟩ := List.mem_map.1 hd
    exact kindOf_blank (h6.ends c hc)
  · refine h6.adj.map (kindOf W) fun x hx y hy ⟨⟨q1, q2⟩, q3⟩ => ⟨fun h => ?_, fun h => ?_⟩
    · have hwy := kindOf_one (h6.kind y hy) h.1
      rcases h.2 with h2 | h2
      · exact q3 ⟨kindOf_one (h6.kind x hx) h2, hwy⟩
      · exact q2 ⟨kindOf_lk h2, hwy⟩
    · exact q1 ⟨kindOf_one (h6.kind x hx) h.1, kindOf_lk h.2⟩

/-! ### P8.5 -/
def again (c : Cr) : Cr := if c.kind ≠ 6 ∧ (c.kind ≠ 5 ∨ c.r = 10) then { c with kind := 0 } else c
def ungo (c : Cr) : Cr := if c.kind = 5 ∧ c.r = 10 then { c with kind := 0 } else c
theorem kind0 {c : Cr} (h : c.kind = 0) : ({ c with kind := 0 } : Cr) = c := by
  cases c
  simp_all
theorem again_kindOf {c : Cr} (hk : c.kind = 0 ∨ c.kind = 5 ∨ c.kind = 6) : again (kindOf W c) = ungo c := by
  have hz : ∀ k : Int, c.kind = 0 → k ≠ 6 → k ≠ 5 → again { c with kind := k } = ungo c := fun k h0 h6 h5 => by
    unfold again ungo
    rw [if_pos ⟨h6, .inl h5⟩, if_neg (by omega)]
    exact kind0 h0
  rcases kindOf_cases (W := W) c with ⟨h1, e⟩ | ⟨_, h2, e⟩ | ⟨_, _, h3, _, e⟩ | ⟨_, _, h3, _, e⟩ | ⟨_, h2, h3, e⟩
  · rw [e]; exact hz 1 (wht_kind h1) (by decide) (by decide)
  · rw [e]; exact hz 4 (is_kind h2) (by decide) (by decide)
  · rw [e]; exact hz 2 (is_kind h3) (by decide) (by decide)
  · rw [e]; exact hz 3 (is_kind h3) (by decide) (by decide)
  · rw [e]
    unfold again ungo
    by_cases h0 : c.kind = 0
    · rw [if_pos ⟨by omega, .inl (by omega)⟩, if_neg (by omega)]
      exact kind0 h0
    · by_cases h5 : c.kind = 5 ∧ c.r = 10
      · rw [if_pos ⟨by omega, .inr h5.2⟩, if_pos h5]
      · rw [if_neg (by omega), if_neg h5]
theorem ungo_node (c : Cr) : (ungo c).node = c.node := by
  unfold ungo
  split <;> rfl
theorem ungo_wht (c : Cr) : wht W (ungo c) = wht W c := by
  unfold ungo
  split
  · rename_i h
    simp [wht, is, h.1, h.2]
  · rfl
theorem ungo_is {c : Cr} (h : endc c = false) : is (ungo c) 13 = false := by
  unfold ungo
  split
  · rename_i h
    simp [is, h.2]
  · simp only [endc, Bool.or_eq_false_iff] at h
    exact h.2
theorem ungo_end {c : Cr} (h : endc c = false) : endc (ungo c) = true ↔ Lk c := by
  unfold ungo Lk
  split
  · rename_i h2
    simp [endc, is, h2.1, h2.2]
  · rename_i h2
    rw [h]
    simpa using h2
theorem ungo_soft {c : Cr} (h : endc c = false) (hl : Lk c → ¬ (W c.node = 0 ∨ W c.node = 1)) : soft W (ungo c) = false := by
  cases hs : soft W (ungo c) with
  | false => rfl
  | true =>
    simp only [soft, Bool.and_eq_true, Bool.or_eq_true, decide_eq_true_eq, ungo_node] at hs
    exact absurd hs.2 (hl ((ungo_end h).1 hs.1))
theorem ungo_turn {c : Cr} (h : endc c = false) (hl : Lk c → ¬ (W c.node = 0 ∨ W c.node = 1)) (hs : wht W c = true → c.r = 32) : turn W (ungo c) = c := by
  unfold turn
  rw [ungo_soft h hl]
  simp only [Bool.false_eq_true, if_false]
  by_cases hL : Lk c
  · rw [if_pos ((ungo_end h).2 hL)]
    unfold ungo
    rw [if_pos (show c.kind = 5 ∧ c.r = 10 from hL)]
    obtain ⟨h1, h2⟩ := hL
    cases c
    simp_all
  · rw [if_neg (fun e => hL ((ungo_end h).1 e)), ungo_wht]
    have e : ungo c = c := by unfold ungo; rw [if_neg (show ¬ (c.kind = 5 ∧ c.r = 10) from hL)]
    rw [e]
    split
    · rename_i hw
      have := hs hw
      cases c
      simp_all
    · rfl
theorem pairs_id : ∀ (l : List Cr), (∀ c ∈ l, is c 13 = false) → pairs l = l
  | [], _ => rfl
  | c :: l, h => by
    unfold pairs
    rw [h c (List.mem_cons_self ..), pairs_id l fun d hd => h d (List.mem_cons_of_mem _ hd)]
    rfl
def hdW (W : Int → Int) : List Cr → Bool
  | [] => false
  | c :: _ => wht W c
theorem around_id : ∀ (l : List Cr) (b : Bool), Adj (fun x y => Q2 W x y ∧ ¬ (wht W x = true ∧ wht W y = true)) l → (b = true → hdW W l = false) → around W b l = l
  | [], _, _, _ => rfl
  | [c], b, _, hb => by
    unfold around
    cases hc : wht W c with
    | true =>
      have h0 : b = false := by
        cases b with
        | false => rfl
        | true => rw [show hdW W [c] = wht W c from rfl, hc] at hb; exact absurd (hb rfl) (by decide)
      simp [h0, nextEnd, around]
    | false => simp [around]
  | c :: d :: l, b, hA, hb => by
    obtain ⟨⟨⟨q1, q2⟩, q3⟩, hA2⟩ := hA
    unfold around
    cases hc : wht W c with
    | true =>
      have hd : wht W d = false := by cases h : wht W d with | false => rfl | true => exact absurd ⟨hc, h⟩ q3
      have he : endc d = false := by cases h : endc d with | false => rfl | true => exact absurd ⟨hc, h⟩ q1
      have h0 : b = false := by
        cases b with
        | false => rfl
        | true => rw [show hdW W (c :: d :: l) = wht W c from rfl, hc] at hb; exact absurd (hb rfl) (by decide)
      have hn : nextEnd W (d :: l) = false := by rw [nextEnd, hd]; simpa using he
      rw [hn, h0, around_id (d :: l) false hA2 (by simp)]
      rfl
    | false =>
      rw [around_id (d :: l) (endc c) hA2 fun h => by
        cases hd : wht W d with
        | false => exact hd
        | true => exact absurd ⟨h, hd⟩ q2]
      rfl
theorem several_id : ∀ (l : List Cr) (b p : Bool), (∀ c ∈ l, soft W c = false) → several W b p l = l
  | [], _, _, _ => rfl
  | c :: l, b, p, h => by
    unfold several
    rw [if_neg (by rw [h c (List.mem_cons_self ..)]; simp), several_id l _ _ fun d hd => h d (List.mem_cons_of_mem _ hd)]
theorem turned_id : ∀ (l : List Cr) (p : Option Cr), (∀ c ∈ l, soft W c = false) → turned W D p l = l.map (turn W)
  | [], _, _ => rfl
  | c :: l, p, h => by
    unfold turned
    rw [h c (List.mem_cons_self ..), turned_id l _ fun d hd => h d (List.mem_cons_of_mem _ hd)]
    rfl
theorem rows_id : ∀ (l : List Cr) (p : Bool), Adj (fun x y => ¬ (wht W x = true ∧ wht W y = true)) l → (p = true → hdW W l = false) → rows W p l = l
  | [], _, _, _ => rfl
  | c :: l, p, hA, hp => by
    have h0 : (wht W c && p) = false := by
      cases p with
      | false => simp
      | true =>
        have := hp rfl
        rw [show hdW W (c :: l) = wht W c from rfl] at this
        simp [this]
    unfold rows
    rw [h0, rows_id l (wht W c) hA.tail fun h => by
      cases l with
      | nil => rfl
      | cons d l =>
        cases hd : wht W d with
        | false => exact hd
        | true => exact absurd ⟨h, hd⟩ hA.1]
    rfl
theorem Adj.imp {R S : Cr → Cr → Prop} {l : List Cr} (h : ∀ x y, R x y → S x y) (hA : Adj R l) : Adj S l := by
  have := Adj.map (S := S) id (fun x _ y _ => h x y) hA
  rwa [List.map_id] at this
theorem once (l : List Cr) (hk : ∀ c ∈ l, c.kind = 0 ∨ c.kind = 5 ∨ c.kind = 6) (hm : ∀ c ∈ l, c.kind = 5 → c.r ≠ 10) : collapse W D ((collapse W D l).map again) = collapse W D l := by
  have h6 := six (W := W) (D := D) l hk hm
  obtain ⟨u, hu⟩ : ∃ u, s6 W D l = u := ⟨_, rfl⟩
  have e0 : collapse W D l = u.map (kindOf W) := by rw [← hu]; rfl
  rw [hu] at h6
  have e1 : (collapse W D l).map again = u.map ungo := by
    rw [e0, List.map_map]
    exact List.map_congr_left fun c hc => again_kindOf (h6.kind c hc)
  rw [e1, e0]
  have p1 : pairs (u.map ungo) = u.map ungo := pairs_id _ fun d hd => by
    obtain ⟨c, hc, rfl⟩ := List.mem_map.1 hd
    exact ungo_is (h6.ends c hc)
  have p2 : around W false (u.map ungo) = u.map ungo := by
    refine around_id _ false (h6.adj.map ungo fun x hx y hy ⟨⟨q1, q2⟩, q3⟩ => ⟨⟨fun h => ?_, fun h => ?_⟩, fun h => ?_⟩) (by simp)
    · rw [ungo_wht] at h
      exact q1 ⟨h.1, (ungo_end (h6.ends y hy)).1 h.2⟩
    · rw [ungo_wht] at h
      exact q2 ⟨(ungo_end (h6.ends x hx)).1 h.1, h.2⟩
    · rw [ungo_wht, ungo_wht] at h
      exact q3 h
  have hs : ∀ d ∈ u.map ungo, soft W d = false := fun d hd => by
    obtain ⟨c, hc, rfl⟩ := List.mem_map.1 hd
    exact ungo_soft (h6.ends c hc) (h6.lk c hc)
  have p4 : (u.map ungo).map (turn W) = u := by
    rw [List.map_map]
    have : u.map (turn W ∘ ungo) = u.map id := List.map_congr_left fun c hc => ungo_turn (h6.ends c hc) (h6.lk c hc) (h6.sp c hc)
    rw [this, List.map_id]
  have p6 : rows W false u = u := rows_id u false (h6.adj.imp fun _ _ h => h.2) (by simp)
  show (rows W false (turned W D none (several W false false (around W false (pairs (u.map ungo)))))).map (kindOf W) = _
  rw [p1, p2, several_id _ _ _ hs, turned_id _ _ hs, p4, p6]

/-! ### where all is kept -/
def twos : List Cr → Nat
  | [] => 0
  | c :: l => (if is c 13 && hdIs 10 l then 1 else 0) + twos l
theorem pairs_len : ∀ l, (pairs l).length + twos l = l.length
  | [] => rfl
  | c :: l => by
    have ih := pairs_len l
    unfold pairs twos
    split <;> simp only [List.length_cons] <;> omega
theorem kept_around : ∀ (l : List Cr) (b : Bool), (∀ c ∈ l, wht W c = false) → around W b l = l
  | [], _, _ => rfl
  | c :: l, b, h => by
    unfold around
    rw [if_neg (by rw [h c (List.mem_cons_self ..)]; simp), kept_around l _ fun d hd => h d (List.mem_cons_of_mem _ hd)]
theorem kept_rows : ∀ (l : List Cr) (p : Bool), (∀ c ∈ l, wht W c = false) → rows W p l = l
  | [], _, _ => rfl
  | c :: l, p, h => by
    unfold rows
    rw [if_neg (by rw [h c (List.mem_cons_self ..)]; simp), kept_rows l _ fun d hd => h d (List.mem_cons_of_mem _ hd)]
theorem kept_len (l : List Cr) (h : ∀ c ∈ l, collW (W c.node) = false) : (collapse W D l).length + twos l = l.length := by
  have hw : ∀ c : Cr, collW (W c.node) = false → wht W c = false := fun c hc => by simp [wht, hc]
  have hs : ∀ c : Cr, collW (W c.node) = false → soft W c = false := fun c hc => by
    simp only [collW, Bool.or_eq_false_iff, decide_eq_false_iff_not] at hc
    simp [soft, hc.1.1, hc.1.2]
  have hp : ∀ c ∈ pairs l, collW (W c.node) = false := fun c hc => h c (mem_pairs hc)
  show ((rows W false (turned W D none (several W false false (around W false (pairs l))))).map (kindOf W)).length + _ = _
  rw [kept_around _ _ fun c hc => hw c (hp c hc), several_id _ _ _ fun c hc => hs c (hp c hc), turned_id _ _ fun c hc => hs c (hp c hc), kept_rows _ _ fun d hd => by
    obtain ⟨c, hc, rfl⟩ := List.mem_map.1 hd
    exact hw _ (by rw [(turn_node c).1]; exact hp c hc)]
  rw [List.length_map, List.length_map]
  exact pairs_len l
end
end Go.Proofs.YtejcfhfmdijimaaDoor.Wh
