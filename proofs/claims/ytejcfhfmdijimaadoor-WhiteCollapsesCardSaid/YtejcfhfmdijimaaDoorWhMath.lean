/- Plain facts on white space as the document collapses it: the steps over lists of characters, what they keep, and the laws that follow. No walk of code. -/
import Derived.Test.YtejcfhfmdijimaaDoorBase
namespace Go.Proofs.YtejcfhfmdijimaaDoor.Wh

/-- a character: its number, node, place, length, kind -/
structure Cr where
  r : Int
  node : Int
  at_ : Int
  n : Int
  kind : Int
deriving DecidableEq

/-- is it this number, of the text? -/
def is (c : Cr) (r : Int) : Bool := decide (c.kind = 0) && decide (c.r = r)
/-- W: the White of a node's style -/
def collW (x : Int) : Bool := decide (x = 0) || decide (x = 1) || decide (x = 4)
def wht (W : Int → Int) (c : Cr) : Bool := collW (W c.node) && (is c 32 || is c 9)
def endc (c : Cr) : Bool := is c 10 || is c 13
def soft (W : Int → Int) (c : Cr) : Bool := endc c && (decide (W c.node = 0) || decide (W c.node = 1))
def wide (D : Int → Bool) (c : Cr) : Bool := decide (c.kind = 0) && !endc c && D c.r

/-- step 1 -/
def hdIs (r : Int) : List Cr → Bool
  | [] => false
  | c :: _ => is c r
def pairs : List Cr → List Cr
  | [] => []
  | c :: l => if is c 13 && hdIs 10 l then pairs l else c :: pairs l
/-- step 2: 'b': is the nearest one ahead that is no white a line end? -/
def nextEnd (W : Int → Int) : List Cr → Bool
  | [] => false
  | c :: l => if wht W c then nextEnd W l else endc c
def around (W : Int → Int) (b : Bool) : List Cr → List Cr
  | [] => []
  | c :: l => if wht W c then (if b || nextEnd W l then around W b l else c :: around W b l) else c :: around W (endc c) l
/-- step 3, its first half: 'b': is the nearest one ahead that is not soft a line end? 'p': is the one ahead soft? -/
def nextHard (W : Int → Int) : List Cr → Bool
  | [] => false
  | c :: l => if soft W c then nextHard W l else endc c
def several (W : Int → Int) (b p : Bool) : List Cr → List Cr
  | [] => []
  | c :: l => if soft W c then (if b || nextHard W l || p then several W b true l else c :: several W b true l) else c :: several W (endc c) false l
/-- step 3, its second half, and steps 4 and 5; 'p': the one ahead, as it was -/
def pIs (r : Int) : Option Cr → Bool
  | none => false
  | some a => is a r
def pWide (D : Int → Bool) : Option Cr → Bool
  | none => false
  | some a => wide D a
def hdWide (D : Int → Bool) : List Cr → Bool
  | [] => false
  | b :: _ => wide D b
def goes (D : Int → Bool) (p : Option Cr) (q : List Cr) : Bool := pIs 8203 p || hdIs 8203 q || pWide D p && hdWide D q
def turn (W : Int → Int) (c : Cr) : Cr := if soft W c then { c with r := 32 } else if endc c then { c with kind := 5, r := 10 } else if wht W c then { c with r := 32 } else c
def turned (W : Int → Int) (D : Int → Bool) (p : Option Cr) : List Cr → List Cr
  | [] => []
  | c :: l => if soft W c && goes D p l then turned W D (some c) l else turn W c :: turned W D (some c) l
/-- step 6; 'p': is the one ahead white that collapses? -/
def rows (W : Int → Int) (p : Bool) : List Cr → List Cr
  | [] => []
  | c :: l => if wht W c && p then rows W true l else c :: rows W (wht W c) l
/-- step 7 -/
def kindOf (W : Int → Int) (c : Cr) : Cr :=
  if wht W c then { c with kind := 1 } else if is c 9 then { c with kind := 4 } else if is c 32 && decide (W c.node = 3) then { c with kind := 2 } else if is c 32 then { c with kind := 3 } else c
def s1 := pairs
def s2 (W : Int → Int) (l : List Cr) := around W false (pairs l)
def s3 (W : Int → Int) (l : List Cr) := several W false false (s2 W l)
def s4 (W : Int → Int) (D : Int → Bool) (l : List Cr) := turned W D none (s3 W l)
def s6 (W : Int → Int) (D : Int → Bool) (l : List Cr) := rows W false (s4 W D l)
def collapse (W : Int → Int) (D : Int → Bool) (l : List Cr) : List Cr := (s6 W D l).map (kindOf W)

/-! ### what an atom parts -/
def atom : Cr := ⟨65532, 0, 0, 0, 6⟩
theorem is_atom (r : Int) : is atom r = false := rfl
section
variable {W : Int → Int} {D : Int → Bool}
theorem wht_atom : wht W atom = false := by simp [wht, is_atom]
theorem endc_atom : endc atom = false := rfl
theorem soft_atom : soft W atom = false := by simp [soft, endc_atom]
theorem hdIs_app (r : Int) (l m : List Cr) : hdIs r (l ++ atom :: m) = hdIs r l := by cases l <;> rfl
theorem pairs_part (l m : List Cr) : pairs (l ++ atom :: m) = pairs l ++ atom :: pairs m := by
  induction l with
  | nil => simp [pairs, is_atom]
  | cons c l ih =>
    simp only [List.cons_append, pairs, hdIs_app, ih]
    split <;> rfl
theorem nextEnd_app (l m : List Cr) : nextEnd W (l ++ atom :: m) = nextEnd W l := by
  induction l with
  | nil => simp [nextEnd, wht_atom, endc_atom]
  | cons c l ih => simp only [List.cons_append, nextEnd, ih]
theorem around_part (l m : List Cr) : ∀ b, around W b (l ++ atom :: m) = around W b l ++ atom :: around W false m := by
  induction l with
  | nil => intro b; simp [around, wht_atom, endc_atom]
  | cons c l ih =>
    intro b
    simp only [List.cons_append, around, nextEnd_app, ih]
    split
    · split <;> rfl
    · rfl
theorem nextHard_app (l m : List Cr) : nextHard W (l ++ atom :: m) = nextHard W l := by
  induction l with
  | nil => simp [nextHard, soft_atom, endc_atom]
  | cons c l ih => simp only [List.cons_append, nextHard, ih]
theorem several_part (l m : List Cr) : ∀ b p, several W b p (l ++ atom :: m) = several W b p l ++ atom :: several W false false m := by
  induction l with
  | nil => intro b p; simp [several, soft_atom, endc_atom]
  | cons c l ih =>
    intro b p
    simp only [List.cons_append, several, nextHard_app, ih]
    split
    · split <;> rfl
    · rfl
theorem turn_atom : turn W atom = atom := by simp [turn, soft_atom, endc_atom, wht_atom]
theorem wide_atom : wide D atom = false := rfl
theorem goes_atomL (q : List Cr) : goes D (some atom) q = goes D none q := by simp [goes, pIs, pWide, is_atom, wide_atom]
theorem hdWide_app (l m : List Cr) : hdWide D (l ++ atom :: m) = hdWide D l := by cases l <;> rfl
theorem goes_app (p : Option Cr) (l m : List Cr) : goes D p (l ++ atom :: m) = goes D p l := by simp only [goes, hdIs_app, hdWide_app]
theorem turned_atomL (m : List Cr) : turned W D (some atom) m = turned W D none m := by
  cases m with
  | nil => rfl
  | cons c m => simp only [turned, goes_atomL]
theorem turned_part (l m : List Cr) : ∀ p, turned W D p (l ++ atom :: m) = turned W D p l ++ atom :: turned W D none m := by
  induction l with
  | nil => intro p; simp [turned, soft_atom, turn_atom, turned_atomL]
  | cons c l ih =>
    intro p
    simp only [List.cons_append, turned, goes_app, ih]
    split <;> rfl
theorem rows_part (l m : List Cr) : ∀ p, rows W p (l ++ atom :: m) = rows W p l ++ atom :: rows W false m := by
  induction l with
  | nil => intro p; simp [rows, wht_atom]
  | cons c l ih =>
    intro p
    simp only [List.cons_append, rows, ih]
    split <;> rfl
theorem kindOf_atom : kindOf W atom = atom := by simp [kindOf, wht_atom, is_atom]
/-- P8.1: an atom parts a list -/
theorem collapse_part (l m : List Cr) : collapse W D (l ++ atom :: m) = collapse W D l ++ atom :: collapse W D m := by
  simp only [collapse, s6, s4, s3, s2, pairs_part, around_part, several_part, turned_part, rows_part, List.map_append, List.map_cons, kindOf_atom]
end

/-! ### what stays, in order -/
def blank (c : Cr) : Bool := decide (c.kind = 0) && (decide (c.r = 32) || decide (c.r = 9) || decide (c.r = 10) || decide (c.r = 13))
/-- the second list is what is left of the first -/
inductive Left : List Cr → List Cr → Prop
  | nil : Left [] []
  | skip {c l a} : blank c = true → Left l a → Left (c :: l) a
  | keep {c d l a} : (blank c = false → d = c) → d.node = c.node → d.at_ = c.at_ → d.n = c.n → Left l a → Left (c :: l) (d :: a)
theorem Left.refl : ∀ l, Left l l
  | [] => .nil
  | _ :: l => .keep (fun _ => rfl) rfl rfl rfl (Left.refl l)
theorem Left.trans {l a b : List Cr} (h : Left l a) : Left a b → Left l b := by
  induction h generalizing b with
  | nil => exact id
  | skip hc _ ih => exact fun h2 => .skip hc (ih h2)
  | keep hb h1 h2 h3 _ ih =>
    rename_i c d l a _
    intro h4
    cases h4 with
    | skip hd h5 =>
      by_cases hc : blank c = true
      · exact .skip hc (ih h5)
      · rw [hb (by simpa using hc)] at hd
        exact absurd hd hc
    | keep hd h5 h6 h7 h8 =>
      refine .keep (fun hc => ?_) (h5.trans h1) (h6.trans h2) (h7.trans h3) (ih h8)
      have e := hb hc
      rw [hd (by rw [e]; exact hc), e]
theorem blank_is {c : Cr} {r : Int} (h : is c r = true) (hr : r = 32 ∨ r = 9 ∨ r = 10 ∨ r = 13) : blank c = true := by
  simp only [is, Bool.and_eq_true, decide_eq_true_eq] at h
  obtain ⟨h1, h2⟩ := h
  unfold blank
  rw [h1, h2]
  rcases hr with rfl | rfl | rfl | rfl <;> rfl
section
variable {W : Int → Int} {D : Int → Bool}
theorem wht_blank {c : Cr} (h : wht W c = true) : blank c = true := by
  simp only [wht, Bool.and_eq_true, Bool.or_eq_true] at h
  rcases h.2 with h | h
  · exact blank_is h (by omega)
  · exact blank_is h (by omega)
theorem endc_blank {c : Cr} (h : endc c = true) : blank c = true := by
  simp only [endc, Bool.or_eq_true] at h
  rcases h with h | h
  · exact blank_is h (by omega)
  · exact blank_is h (by omega)
theorem soft_endc {c : Cr} (h : soft W c = true) : endc c = true := by
  simp only [soft, Bool.and_eq_true] at h
  exact h.1
theorem left_pairs : ∀ l, Left l (pairs l)
  | [] => .nil
  | c :: l => by
    unfold pairs
    split
    · rename_i h
      simp only [Bool.and_eq_true] at h
      exact .skip (blank_is h.1 (by omega)) (left_pairs l)
    · exact .keep (fun _ => rfl) rfl rfl rfl (left_pairs l)
theorem left_around : ∀ l b, Left l (around W b l)
  | [], _ => .nil
  | c :: l, b => by
    unfold around
    split
    · rename_i h
      split
      · exact .skip (wht_blank h) (left_around l b)
      · exact .keep (fun _ => rfl) rfl rfl rfl (left_around l b)
    · exact .keep (fun _ => rfl) rfl rfl rfl (left_around l _)
theorem left_several : ∀ l b p, Left l (several W b p l)
  | [], _, _ => .nil
  | c :: l, b, p => by
    unfold several
    split
    · rename_i h
      split
      · exact .skip (endc_blank (soft_endc h)) (left_several l b true)
      · exact .keep (fun _ => rfl) rfl rfl rfl (left_several l b true)
    · exact .keep (fun _ => rfl) rfl rfl rfl (left_several l _ false)
theorem turn_same {c : Cr} (h : blank c = false) : turn W c = c := by
  have h1 : wht W c = false := by cases hw : wht W c with | false => rfl | true => rw [wht_blank hw] at h; cases h
  have h2 : endc c = false := by cases hw : endc c with | false => rfl | true => rw [endc_blank hw] at h; cases h
  have h3 : soft W c = false := by simp [soft, h2]
  simp [turn, h1, h2, h3]
theorem turn_node (c : Cr) : (turn W c).node = c.node ∧ (turn W c).at_ = c.at_ ∧ (turn W c).n = c.n := by
  unfold turn
  split
  · exact ⟨rfl, rfl, rfl⟩
  · split
    · exact ⟨rfl, rfl, rfl⟩
    · split <;> exact ⟨rfl, rfl, rfl⟩
theorem left_turned : ∀ l p, Left l (turned W D p l)
  | [], _ => .nil
  | c :: l, p => by
    unfold turned
    split
    · rename_i h
      simp only [Bool.and_eq_true] at h
      exact .skip (endc_blank (soft_endc h.1)) (left_turned l _)
    · exact .keep turn_same (turn_node c).1 (turn_node c).2.1 (turn_node c).2.2 (left_turned l _)
theorem left_rows : ∀ l p, Left l (rows W p l)
  | [], _ => .nil
  | c :: l, p => by
    unfold rows
    split
    · rename_i h
      simp only [Bool.and_eq_true] at h
      exact .skip (wht_blank h.1) (left_rows l _)
    · exact .keep (fun _ => rfl) rfl rfl rfl (left_rows l _)
theorem kindOf_same {c : Cr} (h : blank c = false) : kindOf W c = c := by
  have h1 : wht W c = false := by cases hw : wht W c with | false => rfl | true => rw [wht_blank hw] at h; cases h
  have h2 : is c 9 = false := by cases hw : is c 9 with | false => rfl | true => rw [blank_is hw (by omega)] at h; cases h
  have h3 : is c 32 = false := by cases hw : is c 32 with | false => rfl | true => rw [blank_is hw (by omega)] at h; cases h
  simp [kindOf, h1, h2, h3]
theorem kindOf_node (c : Cr) : (kindOf W c).node = c.node ∧ (kindOf W c).at_ = c.at_ ∧ (kindOf W c).n = c.n ∧ (kindOf W c).r = c.r := by
  unfold kindOf
  split
  · exact ⟨rfl, rfl, rfl, rfl⟩
  · split
    · exact ⟨rfl, rfl, rfl, rfl⟩
    · split
      · exact ⟨rfl, rfl, rfl, rfl⟩
      · split <;> exact ⟨rfl, rfl, rfl, rfl⟩
theorem left_kinds : ∀ l, Left l (l.map (kindOf W))
  | [] => .nil
  | c :: l => .keep kindOf_same (kindOf_node c).1 (kindOf_node c).2.1 (kindOf_node c).2.2.1 (left_kinds l)
/-- P8.3 -/
theorem left_collapse (l : List Cr) : Left l (collapse W D l) :=
  (left_pairs l).trans ((left_around _ _).trans ((left_several _ _ _).trans ((left_turned _ _).trans ((left_rows _ _).trans (left_kinds _)))))
end
/-- what ArenaOrder-like loops hold: the greedy match -/
def keyEq (c d : Cr) : Bool := decide (d.node = c.node) && decide (d.at_ = c.at_)
def match_ : List Cr → List Cr → Option (List Cr)
  | [], a => some a
  | c :: l, [] => if blank c then match_ l [] else none
  | c :: l, d :: a => if keyEq c d then (if d.n = c.n ∧ (blank c = true ∨ d = c) then match_ l a else none) else if blank c then match_ l (d :: a) else none
/-- no two have the same node and place -/
def Once (l : List Cr) : Prop := l.Pairwise fun c d => ¬ (d.node = c.node ∧ d.at_ = c.at_)
theorem Left.mem {l a : List Cr} (h : Left l a) : ∀ d ∈ a, ∃ c ∈ l, d.node = c.node ∧ d.at_ = c.at_ := by
  induction h with
  | nil => intro d hd; cases hd
  | skip _ _ ih =>
    intro d hd
    obtain ⟨c, h1, h2⟩ := ih d hd
    exact ⟨c, List.mem_cons_of_mem _ h1, h2⟩
  | keep _ h1 h2 _ _ ih =>
    intro d hd
    rcases List.mem_cons.1 hd with rfl | hd
    · exact ⟨_, List.mem_cons_self .., h1, h2⟩
    · obtain ⟨c, h1, h2⟩ := ih d hd
      exact ⟨c, List.mem_cons_of_mem _ h1, h2⟩
theorem match_left {l a : List Cr} (h : Left l a) (ho : Once l) : match_ l a = some [] := by
  induction h with
  | nil => rfl
  | skip hc hl ih =>
    rename_i c l a
    obtain ⟨h1, h2⟩ := List.pairwise_cons.1 ho
    cases a with
    | nil => simp only [match_, hc, if_true]; exact ih h2
    | cons d a =>
      obtain ⟨c', hm, e1, e2⟩ := hl.mem d (List.mem_cons_self ..)
      have hk : keyEq c d = false := by
        cases hke : keyEq c d with
        | false => rfl
        | true =>
          simp only [keyEq, Bool.and_eq_true, decide_eq_true_eq] at hke
          exact absurd ⟨e1.symm.trans hke.1, e2.symm.trans hke.2⟩ (h1 c' hm)
      simp only [match_, hk, hc, if_true]
      exact ih h2
  | keep hb h1 h2 h3 hl ih =>
    rename_i c d l a
    obtain ⟨_, h5⟩ := List.pairwise_cons.1 ho
    have hk : keyEq c d = true := by simp [keyEq, h1, h2]
    have hq : d.n = c.n ∧ (blank c = true ∨ d = c) := ⟨h3, by
      cases hbc : blank c with
      | true => exact .inl rfl
      | false => exact .inr (hb hbc)⟩
    simp only [match_, hk, if_true]
    rw [if_pos hq]
    exact ih h5
end Go.Proofs.YtejcfhfmdijimaaDoor.Wh
