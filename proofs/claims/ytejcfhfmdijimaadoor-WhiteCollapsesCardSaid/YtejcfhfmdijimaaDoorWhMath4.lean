/- Plain facts on white space, collapsed: the steps by index, as loops go: what stands ahead of place i, and what one round does. No walk of code. -/
import Derived.Test.YtejcfhfmdijimaaDoorWhMath3
namespace Go.Proofs.YtejcfhfmdijimaaDoor.Wh

section
variable {W : Int → Int} {D : Int → Bool}
theorem drop_at {α : Type} {l : List α} {i : Nat} {c : α} (h : l[i]? = some c) : l.drop i = c :: l.drop (i + 1) := by
  obtain ⟨hi, he⟩ := List.getElem?_eq_some_iff.1 h
  rw [List.drop_eq_getElem_cons hi, he]
theorem take_at {α : Type} {l : List α} {i : Nat} {c : α} (h : l[i]? = some c) : (l.take (i + 1)).reverse = c :: (l.take i).reverse := by
  rw [List.take_add_one, h]
  simp
/-- a row of white, or of soft ones, passed one by one, forwards or backwards -/
theorem nextEnd_ahead {l : List Cr} {b : Nat} {c : Cr} (h : l[b]? = some c) : nextEnd W (l.drop b) = if wht W c then nextEnd W (l.drop (b + 1)) else endc c := by
  rw [drop_at h]
  rfl
theorem nextEnd_back {l : List Cr} {a : Nat} {c : Cr} (h : l[a]? = some c) : nextEnd W (l.take (a + 1)).reverse = if wht W c then nextEnd W (l.take a).reverse else endc c := by
  rw [take_at h]
  rfl
theorem nextHard_ahead {l : List Cr} {b : Nat} {c : Cr} (h : l[b]? = some c) : nextHard W (l.drop b) = if soft W c then nextHard W (l.drop (b + 1)) else endc c := by
  rw [drop_at h]
  rfl
theorem nextHard_back {l : List Cr} {a : Nat} {c : Cr} (h : l[a]? = some c) : nextHard W (l.take (a + 1)).reverse = if soft W c then nextHard W (l.take a).reverse else endc c := by
  rw [take_at h]
  rfl
theorem nextEnd_nil : nextEnd W [] = false := rfl
theorem nextHard_nil : nextHard W [] = false := rfl

/-! ### what stands ahead of place i -/
def bA (W : Int → Int) (l : List Cr) (i : Nat) : Bool := nextEnd W (l.take i).reverse
def bS (W : Int → Int) (l : List Cr) (i : Nat) : Bool := nextHard W (l.take i).reverse
def pO (l : List Cr) (i : Nat) : Option Cr := (l.take i).getLast?
def pB (f : Cr → Bool) (l : List Cr) (i : Nat) : Bool := match pO l i with | none => false | some c => f c
theorem pO_zero (l : List Cr) : pO l 0 = none := rfl
theorem pO_succ {l : List Cr} {i : Nat} {c : Cr} (h : l[i]? = some c) : pO l (i + 1) = some c := by
  unfold pO
  rw [List.take_add_one, h]
  simp
theorem pB_zero (f : Cr → Bool) (l : List Cr) : pB f l 0 = false := rfl
theorem pB_succ {f : Cr → Bool} {l : List Cr} {i : Nat} {c : Cr} (h : l[i]? = some c) : pB f l (i + 1) = f c := by
  unfold pB
  rw [pO_succ h]

/-- one round of each step, and where it begins and ends -/
theorem pairs_at {l : List Cr} {i : Nat} {c : Cr} (h : l[i]? = some c) : pairs (l.drop i) = if is c 13 && hdIs 10 (l.drop (i + 1)) then pairs (l.drop (i + 1)) else c :: pairs (l.drop (i + 1)) := by
  rw [drop_at h]
  rfl
theorem around_at {l : List Cr} {i : Nat} {c : Cr} (h : l[i]? = some c) : around W (bA W l i) (l.drop i) =
    if wht W c && (bA W l i || nextEnd W (l.drop (i + 1))) then around W (bA W l (i + 1)) (l.drop (i + 1)) else c :: around W (bA W l (i + 1)) (l.drop (i + 1)) := by
  have e : bA W l (i + 1) = if wht W c then bA W l i else endc c := nextEnd_back h
  rw [drop_at h, e]
  cases hc : wht W c with
  | true =>
    rw [around, if_pos hc]
    simp
  | false =>
    rw [around, if_neg (by rw [hc]; simp)]
    simp
theorem several_at {l : List Cr} {i : Nat} {c : Cr} (h : l[i]? = some c) : several W (bS W l i) (pB (soft W) l i) (l.drop i) =
    if soft W c && (bS W l i || nextHard W (l.drop (i + 1)) || pB (soft W) l i) then several W (bS W l (i + 1)) (pB (soft W) l (i + 1)) (l.drop (i + 1)) else c :: several W (bS W l (i + 1)) (pB (soft W) l (i + 1)) (l.drop (i + 1)) := by
  have e : bS W l (i + 1) = if soft W c then bS W l i else endc c := nextHard_back h
  rw [drop_at h, e, pB_succ h]
  cases hc : soft W c with
  | true =>
    rw [several, if_pos hc]
    simp
  | false =>
    rw [several, if_neg (by rw [hc]; simp)]
    simp
theorem turned_at {l : List Cr} {i : Nat} {c : Cr} (h : l[i]? = some c) : turned W D (pO l i) (l.drop i) =
    if soft W c && goes D (pO l i) (l.drop (i + 1)) then turned W D (pO l (i + 1)) (l.drop (i + 1)) else turn W c :: turned W D (pO l (i + 1)) (l.drop (i + 1)) := by
  rw [drop_at h, pO_succ h, turned]
theorem rows_at {l : List Cr} {i : Nat} {c : Cr} (h : l[i]? = some c) : rows W (pB (wht W) l i) (l.drop i) =
    if wht W c && pB (wht W) l i then rows W (pB (wht W) l (i + 1)) (l.drop (i + 1)) else c :: rows W (pB (wht W) l (i + 1)) (l.drop (i + 1)) := by
  rw [drop_at h, pB_succ h, rows]
  cases hc : wht W c <;> simp
theorem bA_zero (l : List Cr) : bA W l 0 = false := rfl
theorem bS_zero (l : List Cr) : bS W l 0 = false := rfl
theorem drop_end {α : Type} {l : List α} {i : Nat} (h : l.length ≤ i) : l.drop i = [] := List.drop_of_length_le h
theorem hdIs_at {l : List Cr} {i : Nat} {c : Cr} {r : Int} (h : l[i]? = some c) : hdIs r (l.drop i) = is c r := by rw [drop_at h]; rfl
theorem hdIs_end {l : List Cr} {i : Nat} {r : Int} (h : l.length ≤ i) : hdIs r (l.drop i) = false := by rw [drop_end h]; rfl
theorem hdWide_at {l : List Cr} {i : Nat} {c : Cr} (h : l[i]? = some c) : hdWide D (l.drop i) = wide D c := by rw [drop_at h]; rfl
theorem hdWide_end {l : List Cr} {i : Nat} (h : l.length ≤ i) : hdWide D (l.drop i) = false := by rw [drop_end h]; rfl
theorem pIs_zero (l : List Cr) (r : Int) : pIs r (pO l 0) = false := rfl
theorem pIs_succ {l : List Cr} {i : Nat} {c : Cr} {r : Int} (h : l[i]? = some c) : pIs r (pO l (i + 1)) = is c r := by rw [pO_succ h]; rfl
theorem pWide_zero (l : List Cr) : pWide D (pO l 0) = false := rfl
theorem pWide_succ {l : List Cr} {i : Nat} {c : Cr} (h : l[i]? = some c) : pWide D (pO l (i + 1)) = wide D c := by rw [pO_succ h]; rfl

/-! ### no step makes a list longer -/
theorem Left.len {l a : List Cr} (h : Left l a) : a.length ≤ l.length := by
  induction h with
  | nil => exact Nat.le_refl _
  | skip _ _ ih => simp only [List.length_cons]; omega
  | keep _ _ _ _ _ ih => simp only [List.length_cons]; omega
theorem twos_at {l : List Cr} {i : Nat} {c : Cr} (h : l[i]? = some c) : twos (l.drop i) = (if is c 13 && hdIs 10 (l.drop (i + 1)) then 1 else 0) + twos (l.drop (i + 1)) := by
  rw [drop_at h]
  rfl
/-- the 0a's directly behind a 0d, counted from behind: 'p': is the one ahead a 0d? -/
def tw (p : Bool) (l : List Cr) : Nat := (if p && hdIs 10 l then 1 else 0) + twos l
theorem tw_zero (l : List Cr) : tw (pB (fun c => is c 13) l 0) (l.drop 0) = twos l := by simp [tw, pB_zero]
theorem tw_at {l : List Cr} {i : Nat} {c : Cr} (h : l[i]? = some c) : tw (pB (fun c => is c 13) l i) (l.drop i) = (if pB (fun c => is c 13) l i && is c 10 then 1 else 0) + tw (pB (fun c => is c 13) l (i + 1)) (l.drop (i + 1)) := by
  unfold tw
  rw [hdIs_at h, twos_at h, pB_succ h]
theorem tw_end {l : List Cr} {i : Nat} {p : Bool} (h : l.length ≤ i) : tw p (l.drop i) = 0 := by
  rw [drop_end h]
  simp [tw, hdIs, twos]
/-- nodes and kinds of what is left -/
theorem collapse_nodes {l : List Cr} {N : Int → Prop} (h : ∀ c ∈ l, N c.node) : ∀ d ∈ collapse W D l, N d.node := fun d hd => by
  obtain ⟨c, hc, e, _⟩ := (left_collapse (W := W) (D := D) l).mem d hd
  rw [e]
  exact h c hc
theorem again_kind (c : Cr) : (again c).kind = 0 ∨ (again c).kind = 5 ∨ (again c).kind = 6 := by
  unfold again
  split
  · exact .inl rfl
  · rename_i hc
    omega
theorem again_node (c : Cr) : (again c).node = c.node := by
  unfold again
  split <;> rfl
end
end Go.Proofs.YtejcfhfmdijimaaDoor.Wh
