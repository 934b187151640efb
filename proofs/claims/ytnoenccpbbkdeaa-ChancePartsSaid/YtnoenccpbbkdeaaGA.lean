/- Plain facts on white space as the document collapses it: the steps over lists of characters, what they keep, and the laws that follow. No walk of code. -/
import Derived.Test.YtnoenccpbbkdeaaBase
namespace Go.Proofs.Ytnoenccpbbkdeaa.Wh

/-- a character: its number, node, place, length, kind -/
structure Cr where
  r : Int
  node : Int
  at_ : Int
  n : Int
  kind : Int
deriving DecidableEq

/-- is it this number, of the text? -/
def is (c : Cr) (r : Int) : Bool := decide (c.kind = 0) && decide (c.r = r)
/-- W: the White of a node's style -/
def collW (x : Int) : Bool := decide (x = 0) || decide (x = 1) || decide (x = 4)
def wht (W : Int → Int) (c : Cr) : Bool := collW (W c.node) && (is c 32 || is c 9)
def endc (c : Cr) : Bool := is c 10 || is c 13
def soft (W : Int → Int) (c : Cr) : Bool := endc c && (decide (W c.node = 0) || decide (W c.node = 1))
def wide (D : Int → Bool) (c : Cr) : Bool := decide (c.kind = 0) && !endc c && D c.r

/-- step 1 -/
def hdIs (r : Int) : List Cr → Bool
  | [] => false
  | c :: _ => is c r
def pairs : List Cr → List Cr
  | [] => []
  | c :: l => if is c 13 && hdIs 10 l then pairs l else c :: pairs l
/-- step 2: 'b': is the nearest one ahead that is no white a line end? -/
def nextEnd (W : Int → Int) : List Cr → Bool
  | [] => false
  | c :: l => if wht W c then nextEnd W l else endc c
def around (W : Int → Int) (b : Bool) : List Cr → List Cr
  | [] => []
  | c :: l => if wht W c then (if b || nextEnd W l then around W b l else c :: around W b l) else c :: around W (endc c) l
/-- step 3, its first half: 'b': is the nearest one ahead that is not soft a line end? 'p': is the one ahead soft? -/
def nextHard (W : Int → Int) : List Cr → Bool
  | [] => false
  | c :: l => if soft W c then nextHard W l else endc c
def several (W : Int → Int) (b p : Bool) : List Cr → List Cr
  | [] => []
  | c :: l => if soft W c then (if b || nextHard W l || p then several W b true l else c :: several W b true l) else c :: several W (endc c) false l
/-- step 3, its second half, and steps 4 and 5; 'p': the one ahead, as it was -/
def pIs (r : Int) : Option Cr → Bool
  | none => false
  | some a => is a r
def pWide (D : Int → Bool) : Option Cr → Bool
  | none => false
  | some a => wide D a
def hdWide (D : Int → Bool) : List Cr → Bool
  | [] => false
  | b :: _ => wide D b
def goes (D : Int → Bool) (p : Option Cr) (q : List Cr) : Bool := pIs 8203 p || hdIs 8203 q || pWide D p && hdWide D q
def turn (W : Int → Int) (c : Cr) : Cr := if soft W c then { c with r := 32 } else if endc c then { c with kind := 5, r := 10 } else if wht W c then { c with r := 32 } else c
def turned (W : Int → Int) (D : Int → Bool) (p : Option Cr) : List Cr → List Cr
  | [] => []
  | c :: l => if soft W c && goes D p l then turned W D (some c) l else turn W c :: turned W D (some c) l
/-- step 6; 'p': is the one ahead white that collapses? -/
def rows (W : Int → Int) (p : Bool) : List Cr → List Cr
  | [] => []
  | c :: l => if wht W c && p then rows W true l else c :: rows W (wht W c) l
/-- step 7 -/
def kindOf (W : Int → Int) (c : Cr) : Cr :=
  if wht W c then { c with kind := 1 } else if is c 9 then { c with kind := 4 } else if is c 32 && decide (W c.node = 3) then { c with kind := 2 } else if is c 32 then { c with kind := 3 } else c
def s1 := pairs
def s2 (W : Int → Int) (l : List Cr) := around W false (pairs l)
def s3 (W : Int → Int) (l : List Cr) := several W false false (s2 W l)
def s4 (W : Int → Int) (D : Int → Bool) (l : List Cr) := turned W D none (s3 W l)
def s6 (W : Int → Int) (D : Int → Bool) (l : List Cr) := rows W false (s4 W D l)
def collapse (W : Int → Int) (D : Int → Bool) (l : List Cr) : List Cr := (s6 W D l).map (kindOf W)

/-! ### what an atom parts -/
def atom : Cr := ⟨65532, 0, 0, 0, 6⟩
theorem is_atom (r : Int) : is atom r = false := rfl
section
variable {W : Int → Int} {D : Int → Bool}
theorem wht_atom : wht W atom = false := by simp [wht, is_atom]
theorem endc_atom : endc atom = false := rfl
theorem soft_atom : soft W atom = false := by simp [soft, endc_atom]
theorem hdIs_app (r : Int) (l m : List Cr) : hdIs r (l ++ atom :: m) = hdIs r l := by cases l <;> rfl
theorem pairs_part (l m : List Cr) : pairs (l ++ atom :: m) = pairs l ++ atom :: pairs m := by
  induction l with
  | nil => simp [pairs, is_atom]
  | cons c l ih =>
    simp only [List.cons_append, pairs, hdIs_app, ih]
    split <;> rfl
theorem nextEnd_app (l m : List Cr) : nextEnd W (l ++ atom :: m) = nextEnd W l := by
  induction l with
  | nil => simp [nextEnd, wht_atom, endc_atom]
  | cons c l ih => simp only [List.cons_append, nextEnd, ih]
theorem around_part (l m : List Cr) : ∀ b, around W b (l ++ atom :: m) = around W b l ++ atom :: around W false m := by
  induction l with
  | nil => intro b; simp [around, wht_atom, endc_atom]
  | cons c l ih =>
    intro b
    simp only [List.cons_append, around, nextEnd_app, ih]
    split
    · split <;> rfl
    · rfl
theorem nextHard_app (l m : List Cr) : nextHard W (l ++ atom :: m) = nextHard W l := by
  induction l with
  | nil => simp [nextHard, soft_atom, endc_atom]
  | cons c l ih => simp only [List.cons_append, nextHard, ih]
theorem several_part (l m : List Cr) : ∀ b p, several W b p (l ++ atom :: m) = several W b p l ++ atom :: several W false false m := by
  induction l with
  | nil => intro b p; simp [several, soft_atom, endc_atom]
  | cons c l ih =>
    intro b p
    simp only [List.cons_append, several, nextHard_app, ih]
    split
    · split <;> rfl
    · rfl
theorem turn_atom : turn W atom = atom := by simp [turn, soft_atom, endc_atom, wht_atom]
theorem wide_atom : wide D atom = false := rfl
theorem goes_atomL (q : List Cr) : goes D (some atom) q = goes D none q := by simp [goes, pIs, pWide, is_atom, wide_atom]
theorem hdWide_app (l m : List Cr) : hdWide D (l ++ atom :: m) = hdWide D l := by cases l <;> rfl
theorem goes_app (p : Option Cr) (l m : List Cr) : goes D p (l ++ atom :: m) = goes D p l := by simp only [goes, hdIs_app, hdWide_app]
theorem turned_atomL (m : List Cr) : turned W D (some atom) m = turned W D none m := by
  cases m with
  | nil => rfl
  | cons c m => simp only [turned, goes_atomL]
theorem turned_part (l m : List Cr) : ∀ p, turned W D p (l ++ atom :: m) = turned W D p l ++ atom :: turned W D none m := by
  induction l with
  | nil => intro p; simp [turned, soft_atom, turn_atom, turned_atomL]
  | cons c l ih =>
    intro p
    simp only [List.cons_append, turned, goes_app, ih]
    split <;> rfl
theorem rows_part (l m : List Cr) : ∀ p, rows W p (l ++ atom :: m) = rows W p l ++ atom :: rows W false m := by
  induction l with
  | nil => intro p; simp [rows, wht_atom]
  | cons c l ih =>
    intro p
    simp only [List.cons_append, rows, ih]
    split <;> rfl
theorem kindOf_atom : kindOf W atom = atom := by simp [kindOf, wht_atom, is_atom]
/-- P8.1: an atom parts a list -/
theorem collapse_part (l m : List Cr) : collapse W D (l ++ atom :: m) = collapse W D l ++ atom :: collapse W D m := by
  simp only [collapse, s6, s4, s3, s2, pairs_part, around_part, several_part, turned_part, rows_part, List.map_append, List.map_cons, kindOf_atom]
end

/-! ### what stays, in order -/
def blank (c : Cr) : Bool := decide (c.kind = 0) && (decide (c.r = 32) || decide (c.r = 9) || decide (c.r = 10) || decide (c.r = 13))
/-- the second list is what is left of the first -/
inductive Left : List Cr → List Cr → Prop
  | nil : Left [] []
  | skip {c l a} : blank c = true → Left l a → Left (c :: l) a
  | keep {c d l a} : (blank c = false → d = c) → d.node = c.node → d.at_ = c.at_ → d.n = c.n → Left l a → Left (c :: l) (d :: a)
theorem Left.refl : ∀ l, Left l l
  | [] => .nil
  | _ :: l => .keep (fun _ => rfl) rfl rfl rfl (Left.refl l)
theorem Left.trans {l a b : List Cr} (h : Left l a) : Left a b → Left l b := by
  induction h generalizing b with
  | nil => exact id
  | skip hc _ ih => exact fun h2 => .skip hc (ih h2)
  | keep hb h1 h2 h3 _ ih =>
    rename_i c d l a _
    intro h4
    cases h4 with
    | skip hd h5 =>
      by_cases hc : blank c = true
      · exact .skip hc (ih h5)
      · rw [hb (by simpa using hc)] at hd
        exact absurd hd hc
    | keep hd h5 h6 h7 h8 =>
      refine .keep (fun hc => ?_) (h5.trans h1) (h6.trans h2) (h7.trans h3) (ih h8)
      have e := hb hc
      rw [hd (by rw [e]; exact hc), e]
theorem blank_is {c : Cr} {r : Int} (h : is c r = true) (hr : r = 32 ∨ r = 9 ∨ r = 10 ∨ r = 13) : blank c = true := by
  simp only [is, Bool.and_eq_true, decide_eq_true_eq] at h
  obtain ⟨h1, h2⟩ := h
  unfold blank
  rw [h1, h2]
  rcases hr with rfl | rfl | rfl | rfl <;> rfl
section
variable {W : Int → Int} {D : Int → Bool}
theorem wht_blank {c : Cr} (h : wht W c = true) : blank c = true := by
  simp only [wht, Bool.and_eq_true, Bool.or_eq_true] at h
  rcases h.2 with h | h
  · exact blank_is h (by omega)
  · exact blank_is h (by omega)
theorem endc_blank {c : Cr} (h : endc c = true) : blank c = true := by
  simp only [endc, Bool.or_eq_true] at h
  rcases h with h | h
  · exact blank_is h (by omega)
  · exact blank_is h (by omega)
theorem soft_endc {c : Cr} (h : soft W c = true) : endc c = true := by
  simp only [soft, Bool.and_eq_true] at h
  exact h.1
theorem left_pairs : ∀ l, Left l (pairs l)
  | [] => .nil
  | c :: l => by
    unfold pairs
    split
    · rename_i h
      simp only [Bool.and_eq_true] at h
      exact .skip (blank_is h.1 (by omega)) (left_pairs l)
    · exact .keep (fun _ => rfl) rfl rfl rfl (left_pairs l)
theorem left_around : ∀ l b, Left l (around W b l)
  | [], _ => .nil
  | c :: l, b => by
    unfold around
    split
    · rename_i h
      split
      · exact .skip (wht_blank h) (left_around l b)
      · exact .keep (fun _ => rfl) rfl rfl rfl (left_around l b)
    · exact .keep (fun _ => rfl) rfl rfl rfl (left_around l _)
theorem left_several : ∀ l b p, Left l (several W b p l)
  | [], _, _ => .nil
  | c :: l, b, p => by
    unfold several
    split
    · rename_i h
      split
      · exact .skip (endc_blank (soft_endc h)) (left_several l b true)
      · exact .keep (fun _ => rfl) rfl rfl rfl (left_several l b true)
    · exact .keep (fun _ => rfl) rfl rfl rfl (left_several l _ false)
theorem turn_same {c : Cr} (h : blank c = false) : turn W c = c := by
  have h1 : wht W c = false := by cases hw : wht W c with | false => rfl | true => rw [wht_blank hw] at h; cases h
  have h2 : endc c = false := by cases hw : endc c with | false => rfl | true => rw [endc_blank hw] at h; cases h
  have h3 : soft W c = false := by simp [soft, h2]
  simp [turn, h1, h2, h3]
theorem turn_node (c : Cr) : (turn W c).node = c.node ∧ (turn W c).at_ = c.at_ ∧ (turn W c).n = c.n := by
  unfold turn
  split
  · exact ⟨rfl, rfl, rfl⟩
  · split
    · exact ⟨rfl, rfl, rfl⟩
    · split <;> exact ⟨rfl, rfl, rfl⟩
theorem left_turned : ∀ l p, Left l (turned W D p l)
  | [], _ => .nil
  | c :: l, p => by
    unfold turned
    split
    · rename_i h
      simp only [Bool.and_eq_true] at h
      exact .skip (endc_blank (soft_endc h.1)) (left_turned l _)
    · exact .keep turn_same (turn_node c).1 (turn_node c).2.1 (turn_node c).2.2 (left_turned l _)
theorem left_rows : ∀ l p, Left l (rows W p l)
  | [], _ => .nil
  | c :: l, p => by
    unfold rows
    split
    · rename_i h
      simp only [Bool.and_eq_true] at h
      exact .skip (wht_blank h.1) (left_rows l _)
    · exact .keep (fun _ => rfl) rfl rfl rfl (left_rows l _)
theorem kindOf_same {c : Cr} (h : blank c = false) : kindOf W c = c := by
  have h1 : wht W c = false := by cases hw : wht W c with | false => rfl | true => rw [wht_blank hw] at h; cases h
  have h2 : is c 9 = false := by cases hw : is c 9 with | false => rfl | true => rw [blank_is hw (by omega)] at h; cases h
  have h3 : is c 32 = false := by cases hw : is c 32 with | false => rfl | true => rw [blank_is hw (by omega)] at h; cases h
  simp [kindOf, h1, h2, h3]
theorem kindOf_node (c : Cr) : (kindOf W c).node = c.node ∧ (kindOf W c).at_ = c.at_ ∧ (kindOf W c).n = c.n ∧ (kindOf W c).r = c.r := by
  unfold kindOf
  split
  · exact ⟨rfl, rfl, rfl, rfl⟩
  · split
    · exact ⟨rfl, rfl, rfl, rfl⟩
    · split
      · exact ⟨rfl, rfl, rfl, rfl⟩
      · split <;> exact ⟨rfl, rfl, rfl, rfl⟩
theorem left_kinds : ∀ l, Left l (l.map (kindOf W))
  | [] => .nil
  | c :: l => .keep kindOf_same (kindOf_node c).1 (kindOf_node c).2.1 (kindOf_node c).2.2.1 (left_kinds l)
/-- P8.3 -/
theorem left_collapse (l : List Cr) : Left l (collapse W D l) :=
  (left_pairs l).trans ((left_around _ _).trans ((left_several _ _ _).trans ((left_turned _ _).trans ((left_rows _ _).trans (left_kinds _)))))
end
/-- what ArenaOrder-like loops hold: the greedy match -/
def keyEq (c d : Cr) : Bool := decide (d.node = c.node) && decide (d.at_ = c.at_)
def match_ : List Cr → List Cr → Option (List Cr)
  | [], a => some a
  | c :: l, [] => if blank c then match_ l [] else none
  | c :: l, d :: a => if keyEq c d then (if d.n = c.n ∧ (blank c = true ∨ d = c) then match_ l a else none) else if blank c then match_ l (d :: a) else none
/-- no two have the same node and place -/
def Once (l : List Cr) : Prop := l.Pairwise fun c d => ¬ (d.node = c.node ∧ d.at_ = c.at_)
theorem Left.mem {l a : List Cr} (h : Left l a) : ∀ d ∈ a, ∃ c ∈ l, d.node = c.node ∧ d.at_ = c.at_ := by
  induction h with
  | nil => intro d hd; cases hd
  | skip _ _ ih =>
    intro d hd
    obtain ⟨c, h1, h2⟩ := ih d hd
    exact ⟨c, List.mem_cons_of_mem _ h1, h2⟩
  | keep _ h1 h2 _ _ ih =>
    intro d hd
    rcases List.mem_cons.1 hd with rfl | hd
    · exact ⟨_, List.mem_cons_self .., h1, h2⟩
    · obtain ⟨c, h1, h2⟩ := ih d hd
      exact ⟨c, List.mem_cons_of_mem _ h1, h2⟩
theorem match_left {l a : List Cr} (h : Left l a) (ho : Once l) : match_ l a = some [] := by
  induction h with
  | nil => rfl
  | skip hc hl ih =>
    rename_i c l a
    obtain ⟨h1, h2⟩ := List.pairwise_cons.1 ho
    cases a with
    | nil => simp only [match_, hc, if_true]; exact ih h2
    | cons d a =>
      obtain ⟨c', hm, e1, e2⟩ := hl.mem d (List.mem_cons_self ..)
      have hk : keyEq c d = false := by
        cases hke : keyEq c d with
        | false => rfl
        | true =>
          simp only [keyEq, Bool.and_eq_true, decide_eq_true_eq] at hke
          exact absurd ⟨e1.symm.trans hke.1, e2.symm.trans hke.2⟩ (h1 c' hm)
      simp only [match_, hk, hc, if_true]
      exact ih h2
  | keep hb h1 h2 h3 hl ih =>
    rename_i c d l a
    obtain ⟨_, h5⟩ := List.pairwise_cons.1 ho
    have hk : keyEq c d = true := by simp [keyEq, h1, h2]
    have hq : d.n = c.n ∧ (blank c = true ∨ d = c) := ⟨h3, by
      cases hbc : blank c with
      | true => exact .inl rfl
      | false => exact .inr (hb hbc)⟩
    simp only [match_, hk, if_true]
    rw [if_pos hq]
    exact ih h5
end Go.Proofs.Ytnoenccpbbkdeaa.Wh

/- Plain facts on white space, collapsed: what stands beside what, and that once is as twice. No walk of code. -/
namespace Go.Proofs.Ytnoenccpbbkdeaa.Wh

section
variable {W : Int → Int} {D : Int → Bool}
/-- each one, and the next one -/
def Adj (R : Cr → Cr → Prop) : List Cr → Prop
  | [] => True
  | [_] => True
  | a :: b :: l => R a b ∧ Adj R (b :: l)
theorem Adj.tail {R : Cr → Cr → Prop} {a : Cr} : ∀ {l : List Cr}, Adj R (a :: l) → Adj R l
  | [], _ => trivial
  | _ :: _, h => h.2
theorem Adj.cons {R : Cr → Cr → Prop} {a b : Cr} {l : List Cr} (h : R a b) (h2 : Adj R (b :: l)) : Adj R (a :: b :: l) := ⟨h, h2⟩

theorem is_two {c : Cr} {r s : Int} (h : is c r = true) (h2 : is c s = true) : r = s := by
  simp only [is, Bool.and_eq_true, decide_eq_true_eq] at h h2
  omega
theorem wht_not {c : Cr} (h : wht W c = true) : endc c = false := by
  cases he : endc c with
  | false => rfl
  | true =>
    simp only [wht, endc, Bool.and_eq_true, Bool.or_eq_true] at h he
    rcases h.2 with h1 | h1 <;> rcases he with h2 | h2 <;> exact absurd (is_two h1 h2) (by decide)
theorem endc_not {c : Cr} (h : endc c = true) : wht W c = false := by
  cases hw : wht W c with
  | false => rfl
  | true => rw [wht_not hw] at h; cases h

/-! ### step 2 -/
def Q2 (W : Int → Int) (x y : Cr) : Prop := ¬ (wht W x = true ∧ endc y = true) ∧ ¬ (endc x = true ∧ wht W y = true)
/-- where step 2 stands: 'c': the one ahead; 'x': the last one that stayed -/
inductive At2 (W : Int → Int) (b : Bool) (l : List Cr) (x c : Cr) : Prop
  | other : wht W c = false → x = c → b = endc c → At2 W b l x c
  | stayed : wht W x = true → b = false → nextEnd W l = false → At2 W b l x c
  | gone : wht W x = false → b = endc x → (b = false → nextEnd W l = true) → At2 W b l x c
theorem around_adj : ∀ (l : List Cr) (b : Bool) (x c : Cr), At2 W b l x c → Adj (Q2 W) (x :: around W b l) := by
  intro l
  induction l with
  | nil => intro b x c _; trivial
  | cons y l ih =>
    intro b x c h
    unfold around
    cases hy : wht W y with
    | true =>
      rw [if_pos rfl]
      have hn : nextEnd W (y :: l) = nextEnd W l := by rw [nextEnd, if_pos hy]
      split
      · rename_i hr
        refine ih b x y ?_
        rcases h with ⟨h1, rfl, h3⟩ | ⟨h1, h2, h3⟩ | ⟨h1, h2, h3⟩
        · refine .gone h1 h3 fun hb => ?_
          rw [hb, Bool.false_or] at hr
          exact hr
        · rw [hn] at h3
          rw [h2, h3] at hr
          cases hr
        · exact .gone h1 h2 fun hb => by rw [← hn]; exact h3 hb
      · rename_i hr
        have hr : b = false ∧ nextEnd W l = false := by
          cases b <;> cases hq : nextEnd W l <;> simp_all
        refine Adj.cons ⟨fun h5 => ?_, fun h5 => ?_⟩ (ih b y y (.stayed hy hr.1 hr.2))
        · rw [wht_not hy] at h5; cases h5.2
        · rcases h with ⟨h1, rfl, h3⟩ | ⟨h1, h2, h3⟩ | ⟨h1, h2, h3⟩
          · rw [← h3, hr.1] at h5; cases h5.1
          · rw [wht_not h1] at h5; cases h5.1
          · rw [← h2, hr.1] at h5; cases h5.1
    | false =>
      rw [if_neg (by simp)]
      refine Adj.cons ⟨fun h5 => ?_, fun h5 => ?_⟩ (ih _ y y (.other hy rfl rfl))
      · rcases h with ⟨h1, rfl, h3⟩ | ⟨h1, h2, h3⟩ | ⟨h1, h2, h3⟩
        · rw [h1] at h5; cases h5.1
        · rw [nextEnd, hy] at h3
          simp only [Bool.false_eq_true, if_false] at h3
          rw [h3] at h5; cases h5.2
        · rw [h1] at h5; cases h5.1
      · rw [hy] at h5; cases h5.2

/-! ### step 3, its first half -/
def Q3 (W : Int → Int) (x y : Cr) : Prop := Q2 W x y ∧ ¬ (soft W x = true ∧ endc y = true) ∧ ¬ (endc x = true ∧ soft W y = true)
inductive At3 (W : Int → Int) (b p : Bool) (l : List Cr) (x c : Cr) : Prop
  | other : soft W c = false → x = c → b = endc c → p = false → At3 W b p l x c
  | stayed : soft W c = true → soft W x = true → p = true → b = false → nextHard W l = false → At3 W b p l x c
  | gone : soft W c = true → soft W x = false → wht W x = false → p = true → b = endc x → (b = false → nextHard W l = true) → At3 W b p l x c
theorem several_adj : ∀ (l : List Cr) (b p : Bool) (x c : Cr), At3 W b p l x c → Adj (Q2 W) (c :: l) → Adj (Q3 W) (x :: several W b p l) := by
  intro l
  induction l with
  | nil => intro b p x c _ _; trivial
  | cons y l ih =>
    intro b p x c h hA
    obtain ⟨⟨q1, q2⟩, hA2⟩ := hA
    unfold several
    cases hy : soft W y with
    | true =>
      rw [if_pos rfl]
      have hn : nextHard W (y :: l) = nextHard W l := by rw [nextHard, if_pos hy]
      have hye := soft_endc hy
      split
      · rename_i hr
        refine ih b true x y ?_ hA2
        rcases h with ⟨h1, rfl, h3, h4⟩ | ⟨h1, h2, h3, h4, h5⟩ | ⟨h1, h2, h3, h4, h5, h6⟩
        · refine .gone hy h1 ?_ rfl h3 fun hb => ?_
          · cases hw : wht W x with
            | false => rfl
            | true => exact absurd ⟨hw, hye⟩ q1
          · rw [hb, h4, Bool.false_or, Bool.or_false] at hr
            exact hr
        · exact .stayed hy h2 rfl h4 (by rw [← hn]; exact h5)
        · exact .gone hy h2 h3 rfl h5 fun hb => by rw [← hn]; exact h6 hb
      · rename_i hr
        have hr : b = false ∧ nextHard W l = false ∧ p = false := by
          cases b <;> cases p <;> cases hq : nextHard W l <;> simp_all
        obtain ⟨r1, r2, r3⟩ := hr
        rcases h with ⟨h1, rfl, h3, h4⟩ | ⟨h1, h2, h3, h4, h5⟩ | ⟨h1, h2, h3, h4, h5, h6⟩
        · refine Adj.cons ⟨⟨q1, q2⟩, fun h => ?_, fun h => ?_⟩ (ih b true y y (.stayed hy hy rfl r1 r2) hA2)
          · rw [h1] at h; cases h.1
          · rw [← h3, r1] at h; cases h.1
        · rw [h3] at r3; cases r3
        · rw [h4] at r3; cases r3
    | false =>
      rw [if_neg (by simp)]
      refine Adj.cons ?_ (ih _ false y y (.other hy rfl rfl rfl) hA2)
      rcases h with ⟨h1, rfl, h3, h4⟩ | ⟨h1, h2, h3, h4, h5⟩ | ⟨h1, h2, h3, h4, h5, h6⟩
      · exact ⟨⟨q1, q2⟩, fun h => by (rw [h1] at h; cases h.1), fun h => by (rw [hy] at h; cases h.2)⟩
      · rw [nextHard, hy] at h5
        simp only [Bool.false_eq_true, if_false] at h5
        exact ⟨⟨fun h => by (rw [h5] at h; cases h.2), fun h => q2 ⟨soft_endc h1, h.2⟩⟩, fun h => by (rw [h5] at h; cases h.2), fun h => by (rw [hy] at h; cases h.2)⟩
      · exact ⟨⟨fun h => by (rw [h3] at h; cases h.1), fun h => q2 ⟨soft_endc h1, h.2⟩⟩, fun h => by (rw [h2] at h; cases h.1), fun h => by (rw [hy] at h; cases h.2)⟩

/-! ### its second half, and steps 4 and 5 -/
/-- a break that was a line end -/
def Lk (c : Cr) : Prop := c.kind = 5 ∧ c.r = 10
theorem wht_kind {c : Cr} (h : wht W c = true) : c.kind = 0 := by
  simp only [wht, is, Bool.and_eq_true, Bool.or_eq_true, decide_eq_true_eq] at h
  rcases h.2 with h | h <;> exact h.1
theorem endc_kind {c : Cr} (h : endc c = true) : c.kind = 0 := by
  simp only [endc, is, Bool.and_eq_true, Bool.or_eq_true, decide_eq_true_eq] at h
  rcases h with h | h <;> exact h.1
theorem turn_wht {c : Cr} (h : wht W (turn W c) = true) : (wht W c = true ∨ soft W c = true) ∧ (turn W c).r = 32 := by
  unfold turn at h ⊢
  split at h
  · rename_i hs
    rw [if_pos hs]
    exact ⟨.inr hs, rfl⟩
  · rename_i hs
    rw [if_neg hs]
    split at h
    · exact absurd (wht_kind h) (show ¬ (5 : Int) = 0 by decide)
    · rename_i he
      rw [if_neg he]
      split at h
      · rename_i hw
        rw [if_pos hw]
        exact ⟨.inl hw, rfl⟩
      · rename_i hw
        exact absurd h hw
theorem turn_lk {c : Cr} (hm : c.kind = 5 → c.r ≠ 10) (h : Lk (turn W c)) : endc c = true ∧ soft W c = false := by
  unfold turn at h
  split at h
  · rename_i hs
    have := endc_kind (soft_endc hs)
    have h1 := h.1
    simp only [this] at h1
    omega
  · rename_i hs
    split at h
    · rename_i he
      exact ⟨he, by simpa using hs⟩
    · split at h
      · rename_i hw
        have := wht_kind hw
        have h1 := h.1
        simp only [this] at h1
        omega
      · exact absurd h.2 (hm h.1)
theorem is_of {c : Cr} {r s : Int} (h : is c r = true) (hc : c.r = s) : r = s := by
  simp only [is, Bool.and_eq_true, decide_eq_true_eq] at h
  omega
theorem turn_end (c : Cr) : endc (turn W c) = false := by
  unfold turn
  split
  · simp [endc, is]
  · split
    · simp [endc, is]
    · rename_i he
      split
      · simp [endc, is]
      · simpa using he
def Q4 (W : Int → Int) (x y : Cr) : Prop := ¬ (wht W x = true ∧ Lk y) ∧ ¬ (Lk x ∧ wht W y = true)
theorem turned_adj : ∀ (l : List Cr) (x p : Cr), (∀ c ∈ l, c.kind = 5 → c.r ≠ 10) → (x.kind = 5 → x.r ≠ 10) → (x = p ∨ soft W p = true ∧ wht W x = false ∧ endc x = false) → Adj (Q3 W) (p :: l) → Adj (Q4 W) (turn W x :: turned W D (some p) l) := by
  intro l
  induction l with
  | nil => intro x p _ _ _ _; trivial
  | cons y l ih =>
    intro x p hm hx hc hA
    obtain ⟨⟨⟨q1, q2⟩, q3, q4⟩, hA2⟩ := hA
    have hml : ∀ c ∈ l, c.kind = 5 → c.r ≠ 10 := fun c hc => hm c (List.mem_cons_of_mem _ hc)
    have hmy := hm y (List.mem_cons_self ..)
    unfold turned
    split
    · rename_i hr
      simp only [Bool.and_eq_true] at hr
      have hye := soft_endc hr.1
      refine ih x y hml hx (.inr ?_) hA2
      rcases hc with rfl | ⟨h1, h2, h3⟩
      · refine ⟨hr.1, ?_, ?_⟩
        · cases hw : wht W x with
          | false => rfl
          | true => exact absurd ⟨hw, hye⟩ q1
        · cases hw : endc x with
          | false => rfl
          | true => exact absurd ⟨hw, hr.1⟩ q4
      · exact ⟨hr.1, h2, h3⟩
    · refine Adj.cons ?_ (ih y y hml hmy (.inl rfl) hA2)
      rcases hc with rfl | ⟨h1, h2, h3⟩
      · refine ⟨fun ⟨h1, h2⟩ => ?_, fun ⟨h1, h2⟩ => ?_⟩
        · have he := (turn_lk hmy h2).1
          rcases (turn_wht h1).1 with h | h
          · exact q1 ⟨h, he⟩
          · exact q3 ⟨h, he⟩
        · have he := (turn_lk hx h1).1
          rcases (turn_wht h2).1 with h | h
          · exact q2 ⟨he, h⟩
          · exact q4 ⟨he, h⟩
      · refine ⟨fun ⟨h4, h5⟩ => ?_, fun ⟨h4, h5⟩ => ?_⟩
        · rcases (turn_wht h4).1 with h | h
          · rw [h2] at h; cases h
          · rw [soft_endc h] at h3; cases h3
        · rw [(turn_lk hx h4).1] at h3; cases h3

/-! ### step 6 -/
def Q6 (W : Int → Int) (x y : Cr) : Prop := Q4 W x y ∧ ¬ (wht W x = true ∧ wht W y = true)
theorem rows_adj : ∀ (l : List Cr) (x c : Cr), (x = c ∨ wht W x = true ∧ wht W c = true) → Adj (Q4 W) (c :: l) → Adj (Q6 W) (x :: rows W (wht W c) l) := by
  intro l
  induction l with
  | nil => intro x c _ _; trivial
  | cons y l ih =>
    intro x c hc hA
    obtain ⟨⟨q1, q2⟩, hA2⟩ := hA
    unfold rows
    split
    · rename_i hr
      simp only [Bool.and_eq_true] at hr
      have hx : wht W x = true := by
        rcases hc with rfl | h
        · exact hr.2
        · exact h.1
      have := ih x y (.inr ⟨hx, hr.1⟩) hA2
      rwa [hr.1] at this
    · rename_i hr
      have hr : ¬ (wht W y = true ∧ wht W c = true) := by simpa using hr
      refine Adj.cons ?_ (ih y y (.inl rfl) hA2)
      rcases hc with rfl | ⟨h1, h2⟩
      · exact ⟨⟨q1, q2⟩, fun h => hr ⟨h.2, h.1⟩⟩
      · exact ⟨⟨fun h => q1 ⟨h2, h.2⟩, fun h => by (have := wht_kind h1; have := h.1.1; omega)⟩, fun h => hr ⟨h.2, h2⟩⟩

/-! ### who is left -/
theorem mem_pairs {c : Cr} : ∀ {l : List Cr}, c ∈ pairs l → c ∈ l
  | [], h => h
  | d :: l, h => by
    unfold pairs at h
    split at h
    · exact List.mem_cons_of_mem _ (mem_pairs h)
    · rcases List.mem_cons.1 h with rfl | h
      · exact List.mem_cons_self ..
      · exact List.mem_cons_of_mem _ (mem_pairs h)
theorem mem_around {c : Cr} : ∀ {l : List Cr} {b : Bool}, c ∈ around W b l → c ∈ l
  | [], _, h => h
  | d :: l, b, h => by
    unfold around at h
    split at h
    · split at h
      · exact List.mem_cons_of_mem _ (mem_around h)
      · rcases List.mem_cons.1 h with rfl | h
        · exact List.mem_cons_self ..
        · exact List.mem_cons_of_mem _ (mem_around h)
    · rcases List.mem_cons.1 h with rfl | h
      · exact List.mem_cons_self ..
      · exact List.mem_cons_of_mem _ (mem_around h)
theorem mem_several {c : Cr} : ∀ {l : List Cr} {b p : Bool}, c ∈ several W b p l → c ∈ l
  | [], _, _, h => h
  | d :: l, b, p, h => by
    unfold several at h
    split at h
    · split at h
      · exact List.mem_cons_of_mem _ (mem_several h)
      · rcases List.mem_cons.1 h with rfl | h
        · exact List.mem_cons_self ..
        · exact List.mem_cons_of_mem _ (mem_several h)
    · rcases List.mem_cons.1 h with rfl | h
      · exact List.mem_cons_self ..
      · exact List.mem_cons_of_mem _ (mem_several h)
theorem mem_turned {d : Cr} : ∀ {l : List Cr} {p : Option Cr}, d ∈ turned W D p l → ∃ c ∈ l, d = turn W c
  | [], _, h => by cases h
  | e :: l, p, h => by
    unfold turned at h
    split at h
    · obtain ⟨c, h1, h2⟩ := mem_turned h
      exact ⟨c, List.mem_cons_of_mem _ h1, h2⟩
    · rcases List.mem_cons.1 h with rfl | h
      · exact ⟨e, List.mem_cons_self .., rfl⟩
      · obtain ⟨c, h1, h2⟩ := mem_turned h
        exact ⟨c, List.mem_cons_of_mem _ h1, h2⟩
theorem mem_rows {c : Cr} : ∀ {l : List Cr} {p : Bool}, c ∈ rows W p l → c ∈ l
  | [], _, h => h
  | d :: l, p, h => by
    unfold rows at h
    split at h
    · exact List.mem_cons_of_mem _ (mem_rows h)
    · rcases List.mem_cons.1 h with rfl | h
      · exact List.mem_cons_self ..
      · exact List.mem_cons_of_mem _ (mem_rows h)

/-- a list ahead of step 7 -/
structure Six (W : Int → Int) (l : List Cr) : Prop where
  ends : ∀ c ∈ l, endc c = false
  sp : ∀ c ∈ l, wht W c = true → c.r = 32
  lk : ∀ c ∈ l, Lk c → ¬ (W c.node = 0 ∨ W c.node = 1)
  kind : ∀ c ∈ l, c.kind = 0 ∨ c.kind = 5 ∨ c.kind = 6
  adj : Adj (Q6 W) l
theorem turn_kind {c : Cr} (h : c.kind = 0 ∨ c.kind = 5 ∨ c.kind = 6) : (turn W c).kind = 0 ∨ (turn W c).kind = 5 ∨ (turn W c).kind = 6 := by
  unfold turn
  split
  · exact h
  · split
    · exact .inr (.inl rfl)
    · split <;> exact h
theorem six (l : List Cr) (hk : ∀ c ∈ l, c.kind = 0 ∨ c.kind = 5 ∨ c.kind = 6) (hm : ∀ c ∈ l, c.kind = 5 → c.r ≠ 10) : Six W (s6 W D l) := by
  have hl3 : ∀ c ∈ s3 W l, c ∈ l := fun c h => mem_pairs (mem_around (mem_several h))
  have a2 : Adj (Q2 W) (atom :: s2 W l) := around_adj (pairs l) false atom atom (.other wht_atom rfl rfl)
  have a3 : Adj (Q3 W) (atom :: s3 W l) := several_adj (s2 W l) false false atom atom (.other soft_atom rfl rfl rfl) a2
  have a4 : Adj (Q4 W) (atom :: s4 W D l) := by
    have := turned_adj (D := D) (s3 W l) atom atom (fun c h => hm c (hl3 c h)) (by decide) (.inl rfl) a3
    rwa [turn_atom, turned_atomL] at this
  have a6 : Adj (Q6 W) (atom :: s6 W D l) := by
    have := rows_adj (s4 W D l) atom atom (.inl rfl) a4
    rwa [wht_atom] at this
  have hmem : ∀ d ∈ s6 W D l, ∃ c ∈ l, d = turn W c := fun d h => by
    obtain ⟨c, h1, h2⟩ := mem_turned (mem_rows h)
    exact ⟨c, hl3 c h1, h2⟩
  refine ⟨fun d h => ?_, fun d h hw => ?_, fun d h hL => ?_, fun d h => ?_, a6.tail⟩
  · obtain ⟨c, _, rfl⟩ := hmem d h
    exact turn_end c
  · obtain ⟨c, _, rfl⟩ := hmem d h
    exact (turn_wht hw).2
  · obtain ⟨c, hc, rfl⟩ := hmem d h
    obtain ⟨h1, h2⟩ := turn_lk (hm c hc) hL
    rw [(turn_node c).1]
    intro h3
    have : soft W c = true := by simp [soft, h1, h3]
    rw [h2] at this
    cases this
  · obtain ⟨c, hc, rfl⟩ := hmem d h
    exact turn_kind (hk c hc)
end
end Go.Proofs.Ytnoenccpbbkdeaa.Wh

/- Plain facts on white space, collapsed: spaces stand alone; once is as twice; where all is kept, all stays. No walk of code. -/
namespace Go.Proofs.Ytnoenccpbbkdeaa.Wh

section
variable {W : Int → Int} {D : Int → Bool}
theorem Adj.map {R S : Cr → Cr → Prop} (f : Cr → Cr) : ∀ {l : List Cr}, (∀ x ∈ l, ∀ y ∈ l, R x y → S (f x) (f y)) → Adj R l → Adj S (l.map f)
  | [], _, _ => trivial
  | [_], _, _ => trivial
  | a :: b :: l, h, hA => ⟨h a (List.mem_cons_self ..) b (List.mem_cons_of_mem _ (List.mem_cons_self ..)) hA.1, Adj.map f (l := b :: l) (fun x hx y hy => h x (List.mem_cons_of_mem _ hx) y (List.mem_cons_of_mem _ hy)) hA.2⟩
theorem Adj.at_ {R : Cr → Cr → Prop} : ∀ {l : List Cr}, Adj R l → ∀ i x y, l[i]? = some x → l[i + 1]? = some y → R x y
  | [], _, i, x, y, h, _ => by simp at h
  | [_], _, i, x, y, _, h => by simp at h
  | a :: b :: l, hA, 0, x, y, h1, h2 => by
    simp at h1 h2
    subst h1 h2
    exact hA.1
  | a :: b :: l, hA, i + 1, x, y, h1, h2 => Adj.at_ (l := b :: l) hA.2 i x y (by simpa using h1) (by simpa using h2)

/-! ### P8.4 -/
theorem is_kind {c : Cr} {r : Int} (h : is c r = true) : c.kind = 0 := by
  simp only [is, Bool.and_eq_true, decide_eq_true_eq] at h
  exact h.1
theorem is_r {c : Cr} {r : Int} (h : is c r = true) : c.r = r := by
  simp only [is, Bool.and_eq_true, decide_eq_true_eq] at h
  exact h.2
theorem kindOf_cases (c : Cr) : (wht W c = true ∧ kindOf W c = { c with kind := 1 }) ∨ (wht W c = false ∧ is c 9 = true ∧ kindOf W c = { c with kind := 4 }) ∨
    (wht W c = false ∧ is c 9 = false ∧ is c 32 = true ∧ W c.node = 3 ∧ kindOf W c = { c with kind := 2 }) ∨ (wht W c = false ∧ is c 9 = false ∧ is c 32 = true ∧ W c.node ≠ 3 ∧ kindOf W c = { c with kind := 3 }) ∨ (wht W c = false ∧ is c 9 = false ∧ is c 32 = false ∧ kindOf W c = c) := by
  unfold kindOf
  cases h1 : wht W c with
  | true => exact .inl ⟨rfl, by simp⟩
  | false =>
    cases h2 : is c 9 with
    | true => exact .inr (.inl ⟨rfl, rfl, by simp⟩)
    | false =>
      cases h3 : is c 32 with
      | true =>
        by_cases h4 : W c.node = 3
        · exact .inr (.inr (.inl ⟨rfl, rfl, rfl, h4, by simp [h4]⟩))
        · exact .inr (.inr (.inr (.inl ⟨rfl, rfl, rfl, h4, by simp [h4]⟩)))
      | false => exact .inr (.inr (.inr (.inr ⟨rfl, rfl, rfl, by simp⟩)))
theorem kindOf_one {c : Cr} (hk : c.kind = 0 ∨ c.kind = 5 ∨ c.kind = 6) (h : (kindOf W c).kind = 1) : wht W c = true := by
  rcases kindOf_cases (W := W) c with ⟨h1, _⟩ | ⟨_, _, e⟩ | ⟨_, _, _, _, e⟩ | ⟨_, _, _, _, e⟩ | ⟨_, _, _, e⟩
  · exact h1
  · rw [e] at h; exact absurd h (show ¬ (4 : Int) = 1 by decide)
  · rw [e] at h; exact absurd h (show ¬ (2 : Int) = 1 by decide)
  · rw [e] at h; exact absurd h (show ¬ (3 : Int) = 1 by decide)
  · rw [e] at h; omega
theorem kindOf_lk {c : Cr} (h : Lk (kindOf W c)) : Lk c := by
  rcases kindOf_cases (W := W) c with ⟨_, e⟩ | ⟨_, _, e⟩ | ⟨_, _, _, _, e⟩ | ⟨_, _, _, _, e⟩ | ⟨_, _, _, e⟩
  · rw [e] at h; exact absurd h.1 (show ¬ (1 : Int) = 5 by decide)
  · rw [e] at h; exact absurd h.1 (show ¬ (4 : Int) = 5 by decide)
  · rw [e] at h; exact absurd h.1 (show ¬ (2 : Int) = 5 by decide)
  · rw [e] at h; exact absurd h.1 (show ¬ (3 : Int) = 5 by decide)
  · rwa [e] at h
theorem blank_false {c : Cr} (h : c.kind ≠ 0 ∨ (is c 32 = false ∧ is c 9 = false ∧ endc c = false)) : blank c = false := by
  cases hb : blank c with
  | false => rfl
  | true =>
    simp only [blank, Bool.and_eq_true, Bool.or_eq_true, decide_eq_true_eq] at hb
    obtain ⟨h0, hr⟩ := hb
    rcases h with h | ⟨h1, h2, h3⟩
    · exact absurd h0 h
    · have f : ∀ r, c.r = r → is c r = true := fun r hr => by simp [is, h0, hr]
      rcases hr with ((hr | hr) | hr) | hr
      · rw [f _ hr] at h1; cases h1
      · rw [f _ hr] at h2; cases h2
      · simp only [endc, f _ hr, Bool.true_or] at h3; cases h3
      · simp only [endc, f _ hr, Bool.or_true] at h3; cases h3
theorem kindOf_blank {c : Cr} (he : endc c = false) : blank (kindOf W c) = false := by
  rcases kindOf_cases (W := W) c with ⟨_, e⟩ | ⟨_, _, e⟩ | ⟨_, _, _, _, e⟩ | ⟨_, _, _, _, e⟩ | ⟨_, h2, h3, e⟩
  · rw [e]; exact blank_false (.inl (show ¬ (1 : Int) = 0 by decide))
  · rw [e]; exact blank_false (.inl (show ¬ (4 : Int) = 0 by decide))
  · rw [e]; exact blank_false (.inl (show ¬ (2 : Int) = 0 by decide))
  · rw [e]; exact blank_false (.inl (show ¬ (3 : Int) = 0 by decide))
  · rw [e]; exact blank_false (.inr ⟨h3, h2, he⟩)
/-- what may stand beside what, collapsed -/
def QA (x y : Cr) : Prop := ¬ (y.kind = 1 ∧ (x.kind = 1 ∨ Lk x)) ∧ ¬ (x.kind = 1 ∧ Lk y)
theorem alone (l : List Cr) (hk : ∀ c ∈ l, c.kind = 0 ∨ c.kind = 5 ∨ c.kind = 6) (hm : ∀ c ∈ l, c.kind = 5 → c.r ≠ 10) : (∀ d ∈ collapse W D l, blank d = false) ∧ Adj QA (collapse W D l) := by
  have h6 := six (W := W) (D := D) l hk hm
  refine ⟨fun d hd => ?_, ?_⟩
  · obtain ⟨c, hc, rfl⟩ := List.mem_map.1 hd
    exact kindOf_blank (h6.ends c hc)
  · refine h6.adj.map (kindOf W) fun x hx y hy ⟨⟨q1, q2⟩, q3⟩ => ⟨fun h => ?_, fun h => ?_⟩
    · have hwy := kindOf_one (h6.kind y hy) h.1
      rcases h.2 with h2 | h2
      · exact q3 ⟨kindOf_one (h6.kind x hx) h2, hwy⟩
      · exact q2 ⟨kindOf_lk h2, hwy⟩
    · exact q1 ⟨kindOf_one (h6.kind x hx) h.1, kindOf_lk h.2⟩

/-! ### P8.5 -/
def again (c : Cr) : Cr := if c.kind ≠ 6 ∧ (c.kind ≠ 5 ∨ c.r = 10) then { c with kind := 0 } else c
def ungo (c : Cr) : Cr := if c.kind = 5 ∧ c.r = 10 then { c with kind := 0 } else c
theorem kind0 {c : Cr} (h : c.kind = 0) : ({ c with kind := 0 } : Cr) = c := by
  cases c
  simp_all
theorem again_kindOf {c : Cr} (hk : c.kind = 0 ∨ c.kind = 5 ∨ c.kind = 6) : again (kindOf W c) = ungo c := by
  have hz : ∀ k : Int, c.kind = 0 → k ≠ 6 → k ≠ 5 → again { c with kind := k } = ungo c := fun k h0 h6 h5 => by
    unfold again ungo
    rw [if_pos ⟨h6, .inl h5⟩, if_neg (by omega)]
    exact kind0 h0
  rcases kindOf_cases (W := W) c with ⟨h1, e⟩ | ⟨_, h2, e⟩ | ⟨_, _, h3, _, e⟩ | ⟨_, _, h3, _, e⟩ | ⟨_, h2, h3, e⟩
  · rw [e]; exact hz 1 (wht_kind h1) (by decide) (by decide)
  · rw [e]; exact hz 4 (is_kind h2) (by decide) (by decide)
  · rw [e]; exact hz 2 (is_kind h3) (by decide) (by decide)
  · rw [e]; exact hz 3 (is_kind h3) (by decide) (by decide)
  · rw [e]
    unfold again ungo
    by_cases h0 : c.kind = 0
    · rw [if_pos ⟨by omega, .inl (by omega)⟩, if_neg (by omega)]
      exact kind0 h0
    · by_cases h5 : c.kind = 5 ∧ c.r = 10
      · rw [if_pos ⟨by omega, .inr h5.2⟩, if_pos h5]
      · rw [if_neg (by omega), if_neg h5]
theorem ungo_node (c : Cr) : (ungo c).node = c.node := by
  unfold ungo
  split <;> rfl
theorem ungo_wht (c : Cr) : wht W (ungo c) = wht W c := by
  unfold ungo
  split
  · rename_i h
    simp [wht, is, h.1, h.2]
  · rfl
theorem ungo_is {c : Cr} (h : endc c = false) : is (ungo c) 13 = false := by
  unfold ungo
  split
  · rename_i h
    simp [is, h.2]
  · simp only [endc, Bool.or_eq_false_iff] at h
    exact h.2
theorem ungo_end {c : Cr} (h : endc c = false) : endc (ungo c) = true ↔ Lk c := by
  unfold ungo Lk
  split
  · rename_i h2
    simp [endc, is, h2.1, h2.2]
  · rename_i h2
    rw [h]
    simpa using h2
theorem ungo_soft {c : Cr} (h : endc c = false) (hl : Lk c → ¬ (W c.node = 0 ∨ W c.node = 1)) : soft W (ungo c) = false := by
  cases hs : soft W (ungo c) with
  | false => rfl
  | true =>
    simp only [soft, Bool.and_eq_true, Bool.or_eq_true, decide_eq_true_eq, ungo_node] at hs
    exact absurd hs.2 (hl ((ungo_end h).1 hs.1))
theorem ungo_turn {c : Cr} (h : endc c = false) (hl : Lk c → ¬ (W c.node = 0 ∨ W c.node = 1)) (hs : wht W c = true → c.r = 32) : turn W (ungo c) = c := by
  unfold turn
  rw [ungo_soft h hl]
  simp only [Bool.false_eq_true, if_false]
  by_cases hL : Lk c
  · rw [if_pos ((ungo_end h).2 hL)]
    unfold ungo
    rw [if_pos (show c.kind = 5 ∧ c.r = 10 from hL)]
    obtain ⟨h1, h2⟩ := hL
    cases c
    simp_all
  · rw [if_neg (fun e => hL ((ungo_end h).1 e)), ungo_wht]
    have e : ungo c = c := by unfold ungo; rw [if_neg (show ¬ (c.kind = 5 ∧ c.r = 10) from hL)]
    rw [e]
    split
    · rename_i hw
      have := hs hw
      cases c
      simp_all
    · rfl
theorem pairs_id : ∀ (l : List Cr), (∀ c ∈ l, is c 13 = false) → pairs l = l
  | [], _ => rfl
  | c :: l, h => by
    unfold pairs
    rw [h c (List.mem_cons_self ..), pairs_id l fun d hd => h d (List.mem_cons_of_mem _ hd)]
    rfl
def hdW (W : Int → Int) : List Cr → Bool
  | [] => false
  | c :: _ => wht W c
theorem around_id : ∀ (l : List Cr) (b : Bool), Adj (fun x y => Q2 W x y ∧ ¬ (wht W x = true ∧ wht W y = true)) l → (b = true → hdW W l = false) → around W b l = l
  | [], _, _, _ => rfl
  | [c], b, _, hb => by
    unfold around
    cases hc : wht W c with
    | true =>
      have h0 : b = false := by
        cases b with
        | false => rfl
        | true => rw [show hdW W [c] = wht W c from rfl, hc] at hb; exact absurd (hb rfl) (by decide)
      simp [h0, nextEnd, around]
    | false => simp [around]
  | c :: d :: l, b, hA, hb => by
    obtain ⟨⟨⟨q1, q2⟩, q3⟩, hA2⟩ := hA
    unfold around
    cases hc : wht W c with
    | true =>
      have hd : wht W d = false := by cases h : wht W d with | false => rfl | true => exact absurd ⟨hc, h⟩ q3
      have he : endc d = false := by cases h : endc d with | false => rfl | true => exact absurd ⟨hc, h⟩ q1
      have h0 : b = false := by
        cases b with
        | false => rfl
        | true => rw [show hdW W (c :: d :: l) = wht W c from rfl, hc] at hb; exact absurd (hb rfl) (by decide)
      have hn : nextEnd W (d :: l) = false := by rw [nextEnd, hd]; simpa using he
      rw [hn, h0, around_id (d :: l) false hA2 (by simp)]
      rfl
    | false =>
      rw [around_id (d :: l) (endc c) hA2 fun h => by
        cases hd : wht W d with
        | false => exact hd
        | true => exact absurd ⟨h, hd⟩ q2]
      rfl
theorem several_id : ∀ (l : List Cr) (b p : Bool), (∀ c ∈ l, soft W c = false) → several W b p l = l
  | [], _, _, _ => rfl
  | c :: l, b, p, h => by
    unfold several
    rw [if_neg (by rw [h c (List.mem_cons_self ..)]; simp), several_id l _ _ fun d hd => h d (List.mem_cons_of_mem _ hd)]
theorem turned_id : ∀ (l : List Cr) (p : Option Cr), (∀ c ∈ l, soft W c = false) → turned W D p l = l.map (turn W)
  | [], _, _ => rfl
  | c :: l, p, h => by
    unfold turned
    rw [h c (List.mem_cons_self ..), turned_id l _ fun d hd => h d (List.mem_cons_of_mem _ hd)]
    rfl
theorem rows_id : ∀ (l : List Cr) (p : Bool), Adj (fun x y => ¬ (wht W x = true ∧ wht W y = true)) l → (p = true → hdW W l = false) → rows W p l = l
  | [], _, _, _ => rfl
  | c :: l, p, hA, hp => by
    have h0 : (wht W c && p) = false := by
      cases p with
      | false => simp
      | true =>
        have := hp rfl
        rw [show hdW W (c :: l) = wht W c from rfl] at this
        simp [this]
    unfold rows
    rw [h0, rows_id l (wht W c) hA.tail fun h => by
      cases l with
      | nil => rfl
      | cons d l =>
        cases hd : wht W d with
        | false => exact hd
        | true => exact absurd ⟨h, hd⟩ hA.1]
    rfl
theorem Adj.imp {R S : Cr → Cr → Prop} {l : List Cr} (h : ∀ x y, R x y → S x y) (hA : Adj R l) : Adj S l := by
  have := Adj.map (S := S) id (fun x _ y _ => h x y) hA
  rwa [List.map_id] at this
theorem once (l : List Cr) (hk : ∀ c ∈ l, c.kind = 0 ∨ c.kind = 5 ∨ c.kind = 6) (hm : ∀ c ∈ l, c.kind = 5 → c.r ≠ 10) : collapse W D ((collapse W D l).map again) = collapse W D l := by
  have h6 := six (W := W) (D := D) l hk hm
  obtain ⟨u, hu⟩ : ∃ u, s6 W D l = u := ⟨_, rfl⟩
  have e0 : collapse W D l = u.map (kindOf W) := by rw [← hu]; rfl
  rw [hu] at h6
  have e1 : (collapse W D l).map again = u.map ungo := by
    rw [e0, List.map_map]
    exact List.map_congr_left fun c hc => again_kindOf (h6.kind c hc)
  rw [e1, e0]
  have p1 : pairs (u.map ungo) = u.map ungo := pairs_id _ fun d hd => by
    obtain ⟨c, hc, rfl⟩ := List.mem_map.1 hd
    exact ungo_is (h6.ends c hc)
  have p2 : around W false (u.map ungo) = u.map ungo := by
    refine around_id _ false (h6.adj.map ungo fun x hx y hy ⟨⟨q1, q2⟩, q3⟩ => ⟨⟨fun h => ?_, fun h => ?_⟩, fun h => ?_⟩) (by simp)
    · rw [ungo_wht] at h
      exact q1 ⟨h.1, (ungo_end (h6.ends y hy)).1 h.2⟩
    · rw [ungo_wht] at h
      exact q2 ⟨(ungo_end (h6.ends x hx)).1 h.1, h.2⟩
    · rw [ungo_wht, ungo_wht] at h
      exact q3 h
  have hs : ∀ d ∈ u.map ungo, soft W d = false := fun d hd => by
    obtain ⟨c, hc, rfl⟩ := List.mem_map.1 hd
    exact ungo_soft (h6.ends c hc) (h6.lk c hc)
  have p4 : (u.map ungo).map (turn W) = u := by
    rw [List.map_map]
    have : u.map (turn W ∘ ungo) = u.map id := List.map_congr_left fun c hc => ungo_turn (h6.ends c hc) (h6.lk c hc) (h6.sp c hc)
    rw [this, List.map_id]
  have p6 : rows W false u = u := rows_id u false (h6.adj.imp fun _ _ h => h.2) (by simp)
  show (rows W false (turned W D none (several W false false (around W false (pairs (u.map ungo)))))).map (kindOf W) = _
  rw [p1, p2, several_id _ _ _ hs, turned_id _ _ hs, p4, p6]

/-! ### where all is kept -/
def twos : List Cr → Nat
  | [] => 0
  | c :: l => (if is c 13 && hdIs 10 l then 1 else 0) + twos l
theorem pairs_len : ∀ l, (pairs l).length + twos l = l.length
  | [] => rfl
  | c :: l => by
    have ih := pairs_len l
    unfold pairs twos
    split <;> simp only [List.length_cons] <;> omega
theorem kept_around : ∀ (l : List Cr) (b : Bool), (∀ c ∈ l, wht W c = false) → around W b l = l
  | [], _, _ => rfl
  | c :: l, b, h => by
    unfold around
    rw [if_neg (by rw [h c (List.mem_cons_self ..)]; simp), kept_around l _ fun d hd => h d (List.mem_cons_of_mem _ hd)]
theorem kept_rows : ∀ (l : List Cr) (p : Bool), (∀ c ∈ l, wht W c = false) → rows W p l = l
  | [], _, _ => rfl
  | c :: l, p, h => by
    unfold rows
    rw [if_neg (by rw [h c (List.mem_cons_self ..)]; simp), kept_rows l _ fun d hd => h d (List.mem_cons_of_mem _ hd)]
theorem kept_len (l : List Cr) (h : ∀ c ∈ l, collW (W c.node) = false) : (collapse W D l).length + twos l = l.length := by
  have hw : ∀ c : Cr, collW (W c.node) = false → wht W c = false := fun c hc => by simp [wht, hc]
  have hs : ∀ c : Cr, collW (W c.node) = false → soft W c = false := fun c hc => by
    simp only [collW, Bool.or_eq_false_iff, decide_eq_false_iff_not] at hc
    simp [soft, hc.1.1, hc.1.2]
  have hp : ∀ c ∈ pairs l, collW (W c.node) = false := fun c hc => h c (mem_pairs hc)
  show ((rows W false (turned W D none (several W false false (around W false (pairs l))))).map (kindOf W)).length + _ = _
  rw [kept_around _ _ fun c hc => hw c (hp c hc), several_id _ _ _ fun c hc => hs c (hp c hc), turned_id _ _ fun c hc => hs c (hp c hc), kept_rows _ _ fun d hd => by
    obtain ⟨c, hc, rfl⟩ := List.mem_map.1 hd
    exact hw _ (by rw [(turn_node c).1]; exact hp c hc)]
  rw [List.length_map, List.length_map]
  exact pairs_len l
end
end Go.Proofs.Ytnoenccpbbkdeaa.Wh

/- Plain facts on white space, collapsed: the steps by index, as loops go: what stands ahead of place i, and what one round does. No walk of code. -/
namespace Go.Proofs.Ytnoenccpbbkdeaa.Wh

section
variable {W : Int → Int} {D : Int → Bool}
theorem drop_at {α : Type} {l : List α} {i : Nat} {c : α} (h : l[i]? = some c) : l.drop i = c :: l.drop (i + 1) := by
  obtain ⟨hi, he⟩ := List.getElem?_eq_some_iff.1 h
  rw [List.drop_eq_getElem_cons hi, he]
theorem take_at {α : Type} {l : List α} {i : Nat} {c : α} (h : l[i]? = some c) : (l.take (i + 1)).reverse = c :: (l.take i).reverse := by
  rw [List.take_add_one, h]
  simp
/-- a row of white, or of soft ones, passed one by one, forwards or backwards -/
theorem nextEnd_ahead {l : List Cr} {b : Nat} {c : Cr} (h : l[b]? = some c) : nextEnd W (l.drop b) = if wht W c then nextEnd W (l.drop (b + 1)) else endc c := by
  rw [drop_at h]
  rfl
theorem nextEnd_back {l : List Cr} {a : Nat} {c : Cr} (h : l[a]? = some c) : nextEnd W (l.take (a + 1)).reverse = if wht W c then nextEnd W (l.take a).reverse else endc c := by
  rw [take_at h]
  rfl
theorem nextHard_ahead {l : List Cr} {b : Nat} {c : Cr} (h : l[b]? = some c) : nextHard W (l.drop b) = if soft W c then nextHard W (l.drop (b + 1)) else endc c := by
  rw [drop_at h]
  rfl
theorem nextHard_back {l : List Cr} {a : Nat} {c : Cr} (h : l[a]? = some c) : nextHard W (l.take (a + 1)).reverse = if soft W c then nextHard W (l.take a).reverse else endc c := by
  rw [take_at h]
  rfl
theorem nextEnd_nil : nextEnd W [] = false := rfl
theorem nextHard_nil : nextHard W [] = false := rfl

/-! ### what stands ahead of place i -/
def bA (W : Int → Int) (l : List Cr) (i : Nat) : Bool := nextEnd W (l.take i).reverse
def bS (W : Int → Int) (l : List Cr) (i : Nat) : Bool := nextHard W (l.take i).reverse
def pO (l : List Cr) (i : Nat) : Option Cr := (l.take i).getLast?
def pB (f : Cr → Bool) (l : List Cr) (i : Nat) : Bool := match pO l i with | none => false | some c => f c
theorem pO_zero (l : List Cr) : pO l 0 = none := rfl
theorem pO_succ {l : List Cr} {i : Nat} {c : Cr} (h : l[i]? = some c) : pO l (i + 1) = some c := by
  unfold pO
  rw [List.take_add_one, h]
  simp
theorem pB_zero (f : Cr → Bool) (l : List Cr) : pB f l 0 = false := rfl
theorem pB_succ {f : Cr → Bool} {l : List Cr} {i : Nat} {c : Cr} (h : l[i]? = some c) : pB f l (i + 1) = f c := by
  unfold pB
  rw [pO_succ h]

/-- one round of each step, and where it begins and ends -/
theorem pairs_at {l : List Cr} {i : Nat} {c : Cr} (h : l[i]? = some c) : pairs (l.drop i) = if is c 13 && hdIs 10 (l.drop (i + 1)) then pairs (l.drop (i + 1)) else c :: pairs (l.drop (i + 1)) := by
  rw [drop_at h]
  rfl
theorem around_at {l : List Cr} {i : Nat} {c : Cr} (h : l[i]? = some c) : around W (bA W l i) (l.drop i) =
    if wht W c && (bA W l i || nextEnd W (l.drop (i + 1))) then around W (bA W l (i + 1)) (l.drop (i + 1)) else c :: around W (bA W l (i + 1)) (l.drop (i + 1)) := by
  have e : bA W l (i + 1) = if wht W c then bA W l i else endc c := nextEnd_back h
  rw [drop_at h, e]
  cases hc : wht W c with
  | true =>
    rw [around, if_pos hc]
    simp
  | false =>
    rw [around, if_neg (by rw [hc]; simp)]
    simp
theorem several_at {l : List Cr} {i : Nat} {c : Cr} (h : l[i]? = some c) : several W (bS W l i) (pB (soft W) l i) (l.drop i) =
    if soft W c && (bS W l i || nextHard W (l.drop (i + 1)) || pB (soft W) l i) then several W (bS W l (i + 1)) (pB (soft W) l (i + 1)) (l.drop (i + 1)) else c :: several W (bS W l (i + 1)) (pB (soft W) l (i + 1)) (l.drop (i + 1)) := by
  have e : bS W l (i + 1) = if soft W c then bS W l i else endc c := nextHard_back h
  rw [drop_at h, e, pB_succ h]
  cases hc : soft W c with
  | true =>
    rw [several, if_pos hc]
    simp
  | false =>
    rw [several, if_neg (by rw [hc]; simp)]
    simp
theorem turned_at {l : List Cr} {i : Nat} {c : Cr} (h : l[i]? = some c) : turned W D (pO l i) (l.drop i) =
    if soft W c && goes D (pO l i) (l.drop (i + 1)) then turned W D (pO l (i + 1)) (l.drop (i + 1)) else turn W c :: turned W D (pO l (i + 1)) (l.drop (i + 1)) := by
  rw [drop_at h, pO_succ h, turned]
theorem rows_at {l : List Cr} {i : Nat} {c : Cr} (h : l[i]? = some c) : rows W (pB (wht W) l i) (l.drop i) =
    if wht W c && pB (wht W) l i then rows W (pB (wht W) l (i + 1)) (l.drop (i + 1)) else c :: rows W (pB (wht W) l (i + 1)) (l.drop (i + 1)) := by
  rw [drop_at h, pB_succ h, rows]
  cases hc : wht W c <;> simp
theorem bA_zero (l : List Cr) : bA W l 0 = false := rfl
theorem bS_zero (l : List Cr) : bS W l 0 = false := rfl
theorem drop_end {α : Type} {l : List α} {i : Nat} (h : l.length ≤ i) : l.drop i = [] := List.drop_of_length_le h
theorem hdIs_at {l : List Cr} {i : Nat} {c : Cr} {r : Int} (h : l[i]? = some c) : hdIs r (l.drop i) = is c r := by rw [drop_at h]; rfl
theorem hdIs_end {l : List Cr} {i : Nat} {r : Int} (h : l.length ≤ i) : hdIs r (l.drop i) = false := by rw [drop_end h]; rfl
theorem hdWide_at {l : List Cr} {i : Nat} {c : Cr} (h : l[i]? = some c) : hdWide D (l.drop i) = wide D c := by rw [drop_at h]; rfl
theorem hdWide_end {l : List Cr} {i : Nat} (h : l.length ≤ i) : hdWide D (l.drop i) = false := by rw [drop_end h]; rfl
theorem pIs_zero (l : List Cr) (r : Int) : pIs r (pO l 0) = false := rfl
theorem pIs_succ {l : List Cr} {i : Nat} {c : Cr} {r : Int} (h : l[i]? = some c) : pIs r (pO l (i + 1)) = is c r := by rw [pO_succ h]; rfl
theorem pWide_zero (l : List Cr) : pWide D (pO l 0) = false := rfl
theorem pWide_succ {l : List Cr} {i : Nat} {c : Cr} (h : l[i]? = some c) : pWide D (pO l (i + 1)) = wide D c := by rw [pO_succ h]; rfl

/-! ### no step makes a list longer -/
theorem Left.len {l a : List Cr} (h : Left l a) : a.length ≤ l.length := by
  induction h with
  | nil => exact Nat.le_refl _
  | skip _ _ ih => simp only [List.length_cons]; omega
  | keep _ _ _ _ _ ih => simp only [List.length_cons]; omega
theorem twos_at {l : List Cr} {i : Nat} {c : Cr} (h : l[i]? = some c) : twos (l.drop i) = (if is c 13 && hdIs 10 (l.drop (i + 1)) then 1 else 0) + twos (l.drop (i + 1)) := by
  rw [drop_at h]
  rfl
/-- the 0a's directly behind a 0d, counted from behind: 'p': is the one ahead a 0d? -/
def tw (p : Bool) (l : List Cr) : Nat := (if p && hdIs 10 l then 1 else 0) + twos l
theorem tw_zero (l : List Cr) : tw (pB (fun c => is c 13) l 0) (l.drop 0) = twos l := by simp [tw, pB_zero]
theorem tw_at {l : List Cr} {i : Nat} {c : Cr} (h : l[i]? = some c) : tw (pB (fun c => is c 13) l i) (l.drop i) = (if pB (fun c => is c 13) l i && is c 10 then 1 else 0) + tw (pB (fun c => is c 13) l (i + 1)) (l.drop (i + 1)) := by
  unfold tw
  rw [hdIs_at h, twos_at h, pB_succ h]
theorem tw_end {l : List Cr} {i : Nat} {p : Bool} (h : l.length ≤ i) : tw p (l.drop i) = 0 := by
  rw [drop_end h]
  simp [tw, hdIs, twos]
/-- nodes and kinds of what is left -/
theorem collapse_nodes {l : List Cr} {N : Int → Prop} (h : ∀ c ∈ l, N c.node) : ∀ d ∈ collapse W D l, N d.node := fun d hd => by
  obtain ⟨c, hc, e, _⟩ := (left_collapse (W := W) (D := D) l).mem d hd
  rw [e]
  exact h c hc
theorem again_kind (c : Cr) : (again c).kind = 0 ∨ (again c).kind = 5 ∨ (again c).kind = 6 := by
  unfold again
  split
  · exact .inl rfl
  · rename_i hc
    omega
theorem again_node (c : Cr) : (again c).node = c.node := by
  unfold again
  split <;> rfl
end
end Go.Proofs.Ytnoenccpbbkdeaa.Wh

/- Plain facts on white space: the steps as a filter that is told what stands ahead and behind, and a change of each; nine of them are the document's seven. No walk of code. -/
namespace Go.Proofs.Ytnoenccpbbkdeaa.Wh

/-- a character, and the White of its node -/
structure Cw where
  c : Cr
  w : Int
deriving DecidableEq
def emb (W : Int → Int) (c : Cr) : Cw := ⟨c, W c.node⟩
/-- where a list ends -/
def nb : Cw := ⟨⟨0, 0, 0, 0, 6⟩, 0⟩

/-- the first one that is not passed -/
def nxt (past : Cw → Bool) : List Cw → Cw
  | [] => nb
  | c :: l => if past c then nxt past l else c
def filt (past : Cw → Bool) (gone : Cw → Cw → Cw → Bool) (b : Cw) : List Cw → List Cw
  | [] => []
  | c :: l => if gone b c (nxt past l) then filt past gone (if past c then b else c) l else c :: filt past gone (if past c then b else c) l

def isW (x : Cw) (r : Int) : Bool := is x.c r
def endW (x : Cw) : Bool := endc x.c
def softW (x : Cw) : Bool := endW x && (decide (x.w = 0) || decide (x.w = 1))
def hardW (x : Cw) : Bool := endW x && !softW x
def colW (x : Cw) (r : Int) : Bool := isW x r && collW x.w
def whtW (x : Cw) : Bool := colW x 32 || colW x 9
def wideW (D : Int → Bool) (x : Cw) : Bool := decide (x.c.kind = 0) && D x.c.r

def none1 (_ : Cw) : Bool := false
def g1 (_ c a : Cw) : Bool := isW c 13 && isW a 10
def g2 (b c a : Cw) : Bool := whtW c && (endW b || endW a)
def g3 (b c _ : Cw) : Bool := softW c && softW b
def g4 (b c a : Cw) : Bool := softW c && (hardW b || hardW a)
def g5 (D : Int → Bool) (b c a : Cw) : Bool := softW c && (isW b 8203 || isW a 8203 || (wideW D b && wideW D a))
def t5 (x : Cw) : Cw := if softW x then { x with c := { x.c with r := 32 } } else x
def t6 (x : Cw) : Cw := if hardW x then { x with c := { x.c with r := 10, kind := 5 } } else x
def t7 (x : Cw) : Cw := if colW x 9 then { x with c := { x.c with r := 32 } } else x
def g8 (b c _ : Cw) : Bool := colW c 32 && colW b 32
def t9 (x : Cw) : Cw := if isW x 9 then { x with c := { x.c with kind := 4 } } else if colW x 32 then { x with c := { x.c with kind := 1 } } else if isW x 32 && decide (x.w = 3) then { x with c := { x.c with kind := 2 } } else if isW x 32 then { x with c := { x.c with kind := 3 } } else x

section
variable {W : Int → Int} {D : Int → Bool}
theorem emb_is (c : Cr) (r : Int) : isW (emb W c) r = is c r := rfl
theorem emb_end (c : Cr) : endW (emb W c) = endc c := rfl
theorem emb_soft (c : Cr) : softW (emb W c) = soft W c := rfl
theorem emb_hard (c : Cr) : hardW (emb W c) = (endc c && !soft W c) := rfl
theorem emb_col (c : Cr) (r : Int) : colW (emb W c) r = (is c r && collW (W c.node)) := rfl
theorem emb_wht (c : Cr) : whtW (emb W c) = wht W c := by
  unfold whtW wht
  rw [emb_col, emb_col]
  cases collW (W c.node) <;> cases is c 32 <;> cases is c 9 <;> rfl
theorem nb_is (r : Int) : isW nb r = false := rfl
theorem nb_end : endW nb = false := rfl
theorem nb_soft : softW nb = false := rfl
theorem nb_hard : hardW nb = false := rfl
theorem nb_col (r : Int) : colW nb r = false := rfl
theorem nb_wide : wideW D nb = false := rfl
theorem nxt_head (l : List Cr) : nxt none1 (l.map (emb W)) = match l with | [] => nb | c :: _ => emb W c := by
  cases l with
  | nil => rfl
  | cons c l => simp [nxt, none1]

/-- step 1 -/
theorem f1 : ∀ (l : List Cr) (b : Cw), filt none1 g1 b (l.map (emb W)) = (pairs l).map (emb W)
  | [], _ => rfl
  | c :: l, b => by
    have hg : g1 b (emb W c) (nxt none1 (l.map (emb W))) = (is c 13 && hdIs 10 l) := by
      rw [nxt_head]
      cases l <;> rfl
    rw [List.map_cons, filt, hg, pairs, f1 l]
    split <;> rfl
/-- step 2 -/
theorem nxt_end : ∀ l : List Cr, endW (nxt whtW (l.map (emb W))) = nextEnd W l
  | [] => rfl
  | c :: l => by
    rw [List.map_cons, nxt, emb_wht, nextEnd]
    split
    · exact nxt_end l
    · rfl
theorem f2 : ∀ (l : List Cr) (b : Cw), filt whtW g2 b (l.map (emb W)) = (around W (endW b) l).map (emb W)
  | [], _ => rfl
  | c :: l, b => by
    have hg : g2 b (emb W c) (nxt whtW (l.map (emb W))) = (wht W c && (endW b || nextEnd W l)) := by
      unfold g2
      rw [nxt_end, emb_wht]
    rw [List.map_cons, filt, hg, emb_wht, around]
    cases hc : wht W c with
    | true =>
      simp only [Bool.true_and, if_true]
      rw [f2 l b]
      split <;> rfl
    | false =>
      simp only [Bool.false_and, Bool.false_eq_true, if_false]
      rw [f2 l (emb W c)]
      rfl
/-- step 3, its first half, by two filters -/
def first3 (W : Int → Int) (p : Bool) : List Cr → List Cr
  | [] => []
  | c :: l => if soft W c && p then first3 W true l else c :: first3 W (soft W c) l
theorem f3 : ∀ (l : List Cr) (b : Cw), filt none1 g3 b (l.map (emb W)) = (first3 W (softW b) l).map (emb W)
  | [], _ => rfl
  | c :: l, b => by
    rw [List.map_cons, filt, first3]
    simp only [g3, emb_soft, none1, Bool.false_eq_true, if_false]
    rw [f3 l (emb W c), emb_soft]
    cases hc : soft W c <;> cases softW b <;> simp
theorem nxt3 : ∀ l : List Cr, hardW (nxt none1 ((first3 W true l).map (emb W))) = nextHard W l
  | [] => rfl
  | c :: l => by
    rw [first3, nextHard]
    cases hc : soft W c with
    | true =>
      simp only [Bool.true_and, if_true]
      exact nxt3 l
    | false =>
      simp only [Bool.false_and, Bool.false_eq_true, if_false, List.map_cons, nxt, none1]
      rw [emb_hard, hc]
      simp
theorem f34 : ∀ (l : List Cr) (b : Bool) (p : Bool) (x : Cw), (p = false → hardW x = b) → filt none1 g4 x ((first3 W p l).map (emb W)) = (several W b p l).map (emb W)
  | [], _, _, _, _ => rfl
  | c :: l, b, p, x, h => by
    rw [first3, several]
    cases hc : soft W c with
    | true =>
      simp only [Bool.true_and, if_true]
      cases p with
      | true =>
        simp only [if_true, Bool.or_true]
        exact f34 l b true x (by simp)
      | false =>
        simp only [Bool.false_eq_true, if_false, List.map_cons, filt, g4, emb_soft, hc, nxt3, none1, h rfl, Bool.true_and, Bool.or_false]
        rw [f34 l b true (emb W c) (by simp)]
        split <;> rfl
    | false =>
      simp only [Bool.false_and, Bool.false_eq_true, if_false, List.map_cons, filt, g4, emb_soft, hc, none1]
      rw [f34 l (endc c) false (emb W c) (fun _ => by rw [emb_hard, hc]; simp)]
/-- step 3, its second half, and steps 4 and 5 -/
theorem emb_turn (c : Cr) : t7 (t6 (t5 (emb W c))) = emb W (turn W c) := by
  unfold turn
  cases hs : soft W c with
  | true =>
    have h5 : t5 (emb W c) = emb W { c with r := 32 } := by unfold t5; rw [emb_soft, hs]; rfl
    have h6 : hardW (emb W { c with r := 32 }) = false := by
      have : endc { c with r := 32 } = false := by simp [endc, is]
      rw [emb_hard, this]; rfl
    have h7 : colW (emb W { c with r := 32 }) 9 = false := by
      have : is { c with r := 32 } 9 = false := by simp [is]
      rw [emb_col, this]; rfl
    simp only [h5, t6, h6, t7, h7, Bool.false_eq_true, if_false, if_true]
  | false =>
    have h5 : t5 (emb W c) = emb W c := by unfold t5; rw [emb_soft, hs]; rfl
    rw [h5]
    cases he : endc c with
    | true =>
      have h6 : t6 (emb W c) = emb W { c with kind := 5, r := 10 } := by unfold t6; rw [emb_hard, hs, he]; rfl
      have h7 : colW (emb W { c with kind := 5, r := 10 }) 9 = false := by
        have : is { c with kind := 5, r := 10 } 9 = false := by simp [is]
        rw [emb_col, this]; rfl
      simp only [h6, t7, h7, Bool.false_eq_true, if_false, if_true]
    | false =>
      have h6 : t6 (emb W c) = emb W c := by unfold t6; rw [emb_hard, hs, he]; rfl
      rw [h6]
      unfold t7
      rw [emb_col]
      simp only [Bool.false_eq_true, if_false]
      cases h9 : is c 9 with
      | true =>
        cases hcl : collW (W c.node) with
        | true =>
          have hw : wht W c = true := by unfold wht; rw [hcl, h9]; simp
          simp only [hw, Bool.and_self, if_true]
          rfl
        | false =>
          have hw : wht W c = false := by unfold wht; rw [hcl]; simp
          simp [hw]
      | false =>
        simp only [Bool.false_and, Bool.false_eq_true, if_false]
        split
        · rename_i hw
          have h32 : is c 32 = true := by
            unfold wht at hw
            rw [h9] at hw
            simp at hw
            exact hw.2
          have : c.r = 32 := by simp [is] at h32; exact h32.2
          rw [← this]
        · rfl
theorem emb_wide (hD : D 10 = false ∧ D 13 = false) (c : Cr) : wideW D (emb W c) = wide D c := by
  unfold wideW wide emb
  cases he : endc c with
  | false => simp
  | true =>
    have : c.r = 10 ∨ c.r = 13 := by
      simp only [endc, is, Bool.or_eq_true, Bool.and_eq_true, decide_eq_true_eq] at he
      rcases he with h | h
      · exact .inl h.2
      · exact .inr h.2
    rcases this with h | h <;> simp [h, hD.1, hD.2]
theorem f5 (hD : D 10 = false ∧ D 13 = false) : ∀ (l : List Cr) (p : Option Cr), (filt none1 (g5 D) (match p with | none => nb | some a => emb W a) (l.map (emb W))).map (t7 ∘ t6 ∘ t5) = (turned W D p l).map (emb W)
  | [], _ => rfl
  | c :: l, p => by
    have hg : g5 D (match p with | none => nb | some a => emb W a) (emb W c) (nxt none1 (l.map (emb W))) = (soft W c && goes D p l) := by
      unfold g5 goes
      rw [nxt_head]
      cases p with
      | none =>
        cases l with
        | nil => simp [nb_is, nb_wide, pIs, hdIs, pWide, hdWide]
        | cons a l => simp [nb_is, nb_wide, pIs, hdIs, pWide, hdWide, emb_is, emb_soft]
      | some y =>
        cases l with
        | nil => simp [nb_is, nb_wide, pIs, hdIs, pWide, hdWide, emb_is, emb_soft, emb_wide hD]
        | cons a l => simp [pIs, hdIs, pWide, hdWide, emb_is, emb_soft, emb_wide hD]
    rw [List.map_cons, filt, hg, turned]
    simp only [none1, Bool.false_eq_true, if_false]
    have ih := f5 hD l (some c)
    split
    · exact ih
    · rw [List.map_cons, List.map_cons]
      refine congr (congrArg _ ?_) ih
      exact emb_turn c
/-- no tab that collapses -/
def NoTab (W : Int → Int) (l : List Cr) : Prop := ∀ c ∈ l, (is c 9 && collW (W c.node)) = false
theorem noTab_turn (c : Cr) : (is (turn W c) 9 && collW (W (turn W c).node)) = false := by
  rw [(turn_node c).1]
  unfold turn
  split
  · simp [is]
  · split
    · simp [is]
    · split
      · simp [is]
      · rename_i h
        unfold wht at h
        cases h9 : is c 9 <;> cases hcl : collW (W c.node) <;> simp_all
theorem noTab_turned : ∀ (l : List Cr) (p : Option Cr), NoTab W (turned W D p l)
  | [], _ => by intro c hc; cases hc
  | c :: l, p => by
    rw [turned]
    split
    · exact noTab_turned l _
    · intro d hd
      rcases List.mem_cons.1 hd with rfl | hd
      · exact noTab_turn c
      · exact noTab_turned l _ d hd
theorem noTab_wht {c : Cr} (h : (is c 9 && collW (W c.node)) = false) : wht W c = (is c 32 && collW (W c.node)) := by
  unfold wht
  cases h9 : is c 9 <;> cases hcl : collW (W c.node) <;> cases h32 : is c 32 <;> simp_all
/-- step 6 -/
theorem f8 : ∀ (l : List Cr) (b : Cw), NoTab W l → filt none1 g8 b (l.map (emb W)) = (rows W (colW b 32) l).map (emb W)
  | [], _, _ => rfl
  | c :: l, b, hn => by
    have hc := hn c (List.mem_cons_self ..)
    have ih := f8 l (emb W c) (fun d hd => hn d (List.mem_cons_of_mem _ hd))
    rw [List.map_cons, filt, rows, noTab_wht hc]
    simp only [g8, emb_col, none1, Bool.false_eq_true, if_false]
    rw [ih, emb_col]
    cases hh : (is c 32 && collW (W c.node)) <;> cases colW b 32 <;> simp
theorem noTab_rows : ∀ (l : List Cr) (p : Bool), NoTab W l → NoTab W (rows W p l)
  | [], _, _ => by intro c hc; cases hc
  | c :: l, p, hn => by
    have h1 := hn c (List.mem_cons_self ..)
    have h2 : NoTab W l := fun d hd => hn d (List.mem_cons_of_mem _ hd)
    rw [rows]
    split
    · exact noTab_rows l _ h2
    · intro d hd
      rcases List.mem_cons.1 hd with rfl | hd
      · exact h1
      · exact noTab_rows l _ h2 d hd
/-- step 7 -/
theorem f9 {c : Cr} (h : (is c 9 && collW (W c.node)) = false) : t9 (emb W c) = emb W (kindOf W c) := by
  unfold t9 kindOf
  rw [noTab_wht h, emb_is, emb_is, emb_col]
  cases h9 : is c 9 with
  | true =>
    have h32 : is c 32 = false := by
      cases h32 : is c 32 with
      | false => rfl
      | true => exact absurd (is_two h9 h32) (by decide)
    simp [h32, emb]
  | false =>
    cases h32 : is c 32 with
    | false => simp
    | true =>
      cases hcl : collW (W c.node) with
      | true => simp [emb]
      | false =>
        simp only [Bool.true_and, Bool.false_eq_true, if_false, if_true]
        have e : (emb W c).w = W c.node := rfl
        rw [e]
        split <;> rfl
/-- what code makes of a list is what the document makes of it -/
theorem nine (hD : D 10 = false ∧ D 13 = false) (l : List Cr) :
    (filt none1 g8 nb (((((filt none1 (g5 D) nb (filt none1 g4 nb (filt none1 g3 nb (filt whtW g2 nb (filt none1 g1 nb (l.map (emb W))))))).map t5).map t6).map t7))).map t9 = (collapse W D l).map (emb W) := by
  rw [f1, f2, f3, nb_end, nb_soft, f34 _ false false nb (fun _ => rfl)]
  have h5 := f5 (W := W) (D := D) hD (several W false false (around W false (pairs l))) none
  simp only [List.map_map]
  have e : (t7 ∘ t6) ∘ t5 = t7 ∘ t6 ∘ t5 := rfl
  have e2 : t7 ∘ (t6 ∘ t5) = t7 ∘ t6 ∘ t5 := rfl
  rw [show ((filt none1 (g5 D) nb ((several W false false (around W false (pairs l))).map (emb W))).map (t7 ∘ t6 ∘ t5)) = _ from h5]
  rw [f8 _ _ (noTab_turned _ _), nb_col]
  have hN := noTab_rows (W := W) (turned W D none (several W false false (around W false (pairs l)))) false (noTab_turned _ _)
  unfold collapse s6 s4 s3 s2
  simp only [List.map_map]
  exact List.map_congr_left fun c hc => f9 (hN c hc)
end
end Go.Proofs.Ytnoenccpbbkdeaa.Wh
