/- Plain facts on roles that are assigned in passes, from either end of a line. No walk. -/
import Derived.Test.YtddihpiheopleaaTmMath
import Derived.Test.YtddihpiheopleaaMk
namespace Go.Proofs.Ytddihpiheopleaa.Tm
open Ce (Cl)

def kAt (l : List Cl) (i : Nat) : Int := match l[i]? with | some c => c.k | none => 0
theorem kAt_of {l : List Cl} {i : Nat} {c : Cl} (h : l[i]? = some c) : kAt l i = c.k := by unfold kAt; rw [h]
/-- roles as they lie -/
def rolA (n : Nat) (F : Nat → Int) : Array Value := rowV n (fun i => .int .u8 (F i))
theorem rolA_congr {n : Nat} {F G : Nat → Int} (h : ∀ i, i < n → F i = G i) : rolA n F = rolA n G := by
  apply Array.ext_getElem?
  intro j
  unfold rolA
  by_cases hj : j < n
  · rw [rowV_get hj, rowV_get hj, h j hj]
  · rw [Array.getElem?_eq_none_iff.2 (by rw [rowV_size]; omega), Array.getElem?_eq_none_iff.2 (by rw [rowV_size]; omega)]
theorem rolA_set (n : Nat) (F : Nat → Int) (i : Nat) (r : Int) : (rolA n F).setIfInBounds i (.int .u8 r) = rolA n (fun j => if j = i then r else F j) := by
  unfold rolA
  rw [rowV_set]
  congr 1
  funext j
  unfold updV
  by_cases h : j = i
  · simp [h]
  · simp [h]
/-- ahead (d) or from behind: the place of the m-th cell, which cells the first m are -/
def pos (d : Bool) (n m : Nat) : Nat := if d = true then m else n - 1 - m
def visB (d : Bool) (n m i : Nat) : Bool := if d = true then decide (i < m) else decide (n ≤ i + m)
def vis (d : Bool) (n m i : Nat) : Prop := if d = true then i < m else n ≤ i + m
theorem visB_iff {d : Bool} {n m i : Nat} : visB d n m i = true ↔ vis d n m i := by unfold visB vis; split <;> simp
def upK (k r : Int) (l : List Cl) (d : Bool) (m : Nat) (F : Nat → Int) (i : Nat) : Int := if visB d l.length m i = true ∧ kAt l i = k then r else F i
theorem upK_yes {k r : Int} {l : List Cl} {d : Bool} {m : Nat} {F : Nat → Int} {i : Nat} (h1 : vis d l.length m i) (h2 : kAt l i = k) : upK k r l d m F i = r := if_pos ⟨visB_iff.2 h1, h2⟩
theorem upK_no {k r : Int} {l : List Cl} {d : Bool} {m : Nat} {F : Nat → Int} {i : Nat} (h : ¬ (vis d l.length m i ∧ kAt l i = k)) : upK k r l d m F i = F i := if_neg fun hh => h ⟨visB_iff.1 hh.1, hh.2⟩
theorem pos_lt {d : Bool} {n m : Nat} (h : m < n) : pos d n m < n := by unfold pos; split <;> omega
theorem vis_step {d : Bool} {n m i : Nat} (_ : m < n) (_ : i < n) : vis d n (m + 1) i ↔ vis d n m i ∨ i = pos d n m := by
  unfold vis pos
  split <;> omega
theorem upK_zero (k r : Int) (l : List Cl) (d : Bool) (F : Nat → Int) : rolA l.length (upK k r l d 0 F) = rolA l.length F := rolA_congr fun i hi => if_neg fun h => by
  have := visB_iff.1 h.1
  unfold vis at this
  split at this <;> omega
theorem upK_keep {k r : Int} {l : List Cl} {d : Bool} {m : Nat} {F : Nat → Int} (h : m < l.length) (hk : kAt l (pos d l.length m) ≠ k) : rolA l.length (upK k r l d (m + 1) F) = rolA l.length (upK k r l d m F) := rolA_congr fun i hi => by
  by_cases e : i = pos d l.length m
  · subst e
    rw [upK_no (fun h => hk h.2), upK_no (fun h => hk h.2)]
  · by_cases hv : vis d l.length m i ∧ kAt l i = k
    · rw [upK_yes hv.1 hv.2, upK_yes ((vis_step h hi).2 (.inl hv.1)) hv.2]
    · rw [upK_no hv, upK_no fun hh => hv ⟨((vis_step h hi).1 hh.1).resolve_right e, hh.2⟩]
theorem upK_set {k r : Int} {l : List Cl} {d : Bool} {m : Nat} {F : Nat → Int} (h : m < l.length) (hk : kAt l (pos d l.length m) = k) : rolA l.length (upK k r l d (m + 1) F) = (rolA l.length (upK k r l d m F)).setIfInBounds (pos d l.length m) (.int .u8 r) := by
  rw [rolA_set]
  refine rolA_congr fun i hi => ?_
  by_cases e : i = pos d l.length m
  · subst e
    rw [if_pos rfl, upK_yes ((vis_step h hi).2 (.inr rfl)) hk]
  · rw [if_neg e]
    by_cases hv : vis d l.length m i ∧ kAt l i = k
    · rw [upK_yes hv.1 hv.2, upK_yes ((vis_step h hi).2 (.inl hv.1)) hv.2]
    · rw [upK_no hv, upK_no fun hh => hv ⟨((vis_step h hi).1 hh.1).resolve_right e, hh.2⟩]
/-- the cells that a pass comes to -/
def reach (a b : Int) (l : List Cl) (d : Bool) (i : Nat) : Bool := if d = true then jst a b (l.take i) else jst a b (l.drop (i + 1))
def passB (a b : Int) (k : Int) : Bool := decide (k = 7) || (decide (k = 8) || decide (k = 5)) || (decide (k = a) || decide (k = b))
theorem passB_ok (a b : Int) (c : Cl) : passB a b c.k = ok a b c := rfl
theorem jst_iff {a b : Int} {l : List Cl} : jst a b l = true ↔ ∀ (i : Nat) (c : Cl), l[i]? = some c → passB a b c.k = true := by
  unfold jst
  rw [List.all_eq_true]
  constructor
  · intro h i c hc
    exact h c (List.mem_of_getElem? hc)
  · intro h c hc
    obtain ⟨i, hi⟩ := List.getElem?_of_mem hc
    exact h i c hi
theorem reach_iff {a b : Int} {l : List Cl} {d : Bool} {i : Nat} : reach a b l d i = true ↔ ∀ (j : Nat) (c : Cl), l[j]? = some c → (if d = true then j < i else i < j) → passB a b c.k = true := by
  unfold reach
  cases d with
  | true =>
    rw [if_pos rfl, jst_iff]
    constructor
    · intro h j c hc hj
      exact h j c (by rw [List.getElem?_take, if_pos (by simpa using hj)]; exact hc)
    · intro h j c hc
      rw [List.getElem?_take] at hc
      split at hc
      · rename_i hj
        exact h j c hc (by simpa using hj)
      · cases hc
  | false =>
    rw [if_neg (by decide), jst_iff]
    constructor
    · intro h j c hc hj
      have hj' : i < j := by simpa using hj
      refine h (j - (i + 1)) c ?_
      rw [List.getElem?_drop, show i + 1 + (j - (i + 1)) = j by omega]
      exact hc
    · intro h j c hc
      rw [List.getElem?_drop] at hc
      exact h _ c hc (by simp; omega)
/-- what a pass has done where it stops: at the end, or at a cell that is not passed -/
theorem upK_end {a b k r : Int} {l : List Cl} {d : Bool} {m : Nat} {F : Nat → Int} (hk : passB a b k = true) (hm : m ≤ l.length) (hall : ∀ j, j < m → passB a b (kAt l (pos d l.length j)) = true) (hstop : m = l.length ∨ passB a b (kAt l (pos d l.length m)) = false) :
    rolA l.length (upK k r l d m F) = rolA l.length (fun i => if kAt l i = k ∧ reach a b l d i = true then r else F i) := rolA_congr fun i hi => by
  unfold upK
  by_cases hki : kAt l i = k
  · have key : vis d l.length m i ↔ reach a b l d i = true := by
      rw [reach_iff]
      constructor
      · intro hv j c hc hj
        have hjl : j < l.length := (List.getElem?_eq_some_iff.1 hc).1
        have e : ∃ j', j' < m ∧ pos d l.length j' = j := by
          unfold vis at hv
          cases d with
          | true =>
            simp only [if_pos] at hv hj
            exact ⟨j, by omega, by simp [pos]⟩
          | false =>
            simp only [Bool.false_eq_true, if_false] at hv hj
            exact ⟨l.length - 1 - j, by omega, by simp [pos]; omega⟩
        obtain ⟨j', h1, h2⟩ := e
        have := hall j' h1
        rw [h2, kAt_of hc] at this
        exact this
      · intro hr
        rcases hstop with rfl | hstop
        · unfold vis
          split <;> omega
        · rcases Nat.lt_or_ge m l.length with hml | hml
          · have hp := pos_lt (d := d) hml
            obtain ⟨c, hc⟩ : ∃ c, l[pos d l.length m]? = some c := ⟨_, List.getElem?_eq_getElem hp⟩
            have hne : i ≠ pos d l.length m := fun e => by
              rw [← e, hki, hk] at hstop
              cases hstop
            rw [kAt_of hc] at hstop
            apply Classical.byContradiction
            intro hv
            have := hr _ c hc (by
              unfold vis at hv
              unfold pos at hne ⊢
              cases d with
              | true => simp only [if_pos] at hv hne ⊢; omega
              | false => simp only [Bool.false_eq_true, if_false] at hv hne ⊢; omega)
            rw [this] at hstop
            cases hstop
          · unfold vis
            split <;> omega
    by_cases hv : vis d l.length m i
    · rw [if_pos ⟨visB_iff.2 hv, hki⟩, if_pos ⟨hki, key.1 hv⟩]
    · rw [if_neg (fun h => hv (visB_iff.1 h.1)), if_neg (fun h => hv (key.2 h.2))]
  · rw [if_neg (fun h => hki h.2), if_neg (fun h => hki h.1)]
/-- the three passes -/
def rol3 (l : List Cl) (i : Nat) : Int :=
  if kAt l i = 2 ∧ reach 1 2 l false i = true then 2 else if kAt l i = 1 ∧ reach 1 1 l false i = true then 1 else if kAt l i = 1 ∧ reach 1 1 l true i = true then 1 else 0
theorem rol3_is {l : List Cl} {i : Nat} {c : Cl} (h : l[i]? = some c) : rol3 l i = roleV (l.take i) (l.drop (i + 1)) c := by
  unfold rol3 roleV reach
  rw [kAt_of h]
  simp only [Bool.false_eq_true, if_false, if_true]
  by_cases h2 : c.k = 2
  · have h1 : ¬ c.k = 1 := by omega
    simp [h2]
  · by_cases h1 : c.k = 1
    · simp only [h1, true_and]
      rw [if_neg (by simp)]
      by_cases ha : jst 1 1 (l.drop (i + 1)) = true
      · rw [if_pos ha, if_pos (.inr ha)]
      · rw [if_neg ha]
        by_cases hb : jst 1 1 (l.take i) = true
        · rw [if_pos hb, if_pos (.inl hb)]
        · rw [if_neg hb, if_neg (by simp [ha, hb])]
          simp
    · simp [h1, h2]
theorem rolesV_map (l : List Cl) : (rolesV l).map (Value.int .u8) = (rolA l.length (rol3 l)).toList := by
  apply List.ext_getElem?
  intro i
  rw [List.getElem?_map]
  by_cases hi : i < l.length
  · obtain ⟨c, hc⟩ : ∃ c, l[i]? = some c := ⟨_, List.getElem?_eq_getElem hi⟩
    rw [rolesV_at hc]
    have := rowV_get (f := fun i => Value.int .u8 (rol3 l i)) hi
    rw [rol3_is hc] at this
    unfold rolA
    rw [Array.getElem?_toList, this]
    rfl
  · rw [List.getElem?_eq_none (by rw [rolesV_len]; omega)]
    unfold rolA
    rw [Array.getElem?_toList, Array.getElem?_eq_none_iff.2 (by rw [rowV_size]; omega)]
    rfl
theorem rolesV_map' (l : List Cl) {n : Nat} (hn : l.length = n) : (rolesV l).map (Value.int .u8) = (rolA n (rol3 l)).toList := by subst hn; exact rolesV_map l
/-! ### what must fit -/
/-- what hangs is passed over too -/
def fitR (r : Int) : Int := if r = 2 then 1 else r
def rolesF2 (l : List Cl) : List Int := (rolesV l).map fitR
/-- nothing but edges and what is removed -/
def blankV (l : List Cl) : Bool := (List.range l.length).all fun i => decide (rol3 l i = 1) || (decide (kAt l i = 7) || (decide (kAt l i = 8) || decide (kAt l i = 5)))
end Go.Proofs.Ytddihpiheopleaa.Tm
