/- Plain facts on white space: the steps as a filter that is told what stands ahead and behind, and a change of each; nine of them are the document's seven. No walk of code. -/
import Derived.Test.YtejcfhfmdijimaaDoorWhMath4
namespace Go.Proofs.YtejcfhfmdijimaaDoor.Wh

/-- a character, and the White of its node -/
structure Cw where
  c : Cr
  w : Int
deriving DecidableEq
def emb (W : Int → Int) (c : Cr) : Cw := ⟨c, W c.node⟩
/-- where a list ends -/
def nb : Cw := ⟨⟨0, 0, 0, 0, 6⟩, 0⟩

/-- the first one that is not passed -/
def nxt (past : Cw → Bool) : List Cw → Cw
  | [] => nb
  | c :: l => if past c then nxt past l else c
def filt (past : Cw → Bool) (gone : Cw → Cw → Cw → Bool) (b : Cw) : List Cw → List Cw
  | [] => []
  | c :: l => if gone b c (nxt past l) then filt past gone (if past c then b else c) l else c :: filt past gone (if past c then b else c) l

def isW (x : Cw) (r : Int) : Bool := is x.c r
def endW (x : Cw) : Bool := endc x.c
def softW (x : Cw) : Bool := endW x && (decide (x.w = 0) || decide (x.w = 1))
def hardW (x : Cw) : Bool := endW x && !softW x
def colW (x : Cw) (r : Int) : Bool := isW x r && collW x.w
def whtW (x : Cw) : Bool := colW x 32 || colW x 9
def wideW (D : Int → Bool) (x : Cw) : Bool := decide (x.c.kind = 0) && D x.c.r

def none1 (_ : Cw) : Bool := false
def g1 (_ c a : Cw) : Bool := isW c 13 && isW a 10
def g2 (b c a : Cw) : Bool := whtW c && (endW b || endW a)
def g3 (b c _ : Cw) : Bool := softW c && softW b
def g4 (b c a : Cw) : Bool := softW c && (hardW b || hardW a)
def g5 (D : Int → Bool) (b c a : Cw) : Bool := softW c && (isW b 8203 || isW a 8203 || (wideW D b && wideW D a))
def t5 (x : Cw) : Cw := if softW x then { x with c := { x.c with r := 32 } } else x
def t6 (x : Cw) : Cw := if hardW x then { x with c := { x.c with r := 10, kind := 5 } } else x
def t7 (x : Cw) : Cw := if colW x 9 then { x with c := { x.c with r := 32 } } else x
def g8 (b c _ : Cw) : Bool := colW c 32 && colW b 32
def t9 (x : Cw) : Cw := if isW x 9 then { x with c := { x.c with kind := 4 } } else if colW x 32 then { x with c := { x.c with kind := 1 } } else if isW x 32 && decide (x.w = 3) then { x with c := { x.c with kind := 2 } } else if isW x 32 then { x with c := { x.c with kind := 3 } } else x

section
variable {W : Int → Int} {D : Int → Bool}
theorem emb_is (c : Cr) (r : Int) : isW (emb W c) r = is c r := rfl
theorem emb_end (c : Cr) : endW (emb W c) = endc c := rfl
theorem emb_soft (c : Cr) : softW (emb W c) = soft W c := rfl
theorem emb_hard (c : Cr) : hardW (emb W c) = (endc c && !soft W c) := rfl
theorem emb_col (c : Cr) (r : Int) : colW (emb W c) r = (is c r && collW (W c.node)) := rfl
theorem emb_wht (c : Cr) : whtW (emb W c) = wht W c := by
  unfold whtW wht
  rw [emb_col, emb_col]
  cases collW (W c.node) <;> cases is c 32 <;> cases is c 9 <;> rfl
theorem nb_is (r : Int) : isW nb r = false := rfl
theorem nb_end : endW nb = false := rfl
theorem nb_soft : softW nb = false := rfl
theorem nb_hard : hardW nb = false := rfl
theorem nb_col (r : Int) : colW nb r = false := rfl
theorem nb_wide : wideW D nb = false := rfl
theorem nxt_head (l : List Cr) : nxt none1 (l.map (emb W)) = match l with | [] => nb | c :: _ => emb W c := by
  cases l with
  | nil => rfl
  | cons c l => simp [nxt, none1]

/-- step 1 -/
theorem f1 : ∀ (l : List Cr) (b : Cw), filt none1 g1 b (l.map (emb W)) = (pairs l).map (emb W)
  | [], _ => rfl
  | c :: l, b => by
    have hg : g1 b (emb W c) (nxt none1 (l.map (emb W))) = (is c 13 && hdIs 10 l) := by
      rw [nxt_head]
      cases l <;> rfl
    rw [List.map_cons, filt, hg, pairs, f1 l]
    split <;> rfl
/-- step 2 -/
theorem nxt_end : ∀ l : List Cr, endW (nxt whtW (l.map (emb W))) = nextEnd W l
  | [] => rfl
  | c :: l => by
    rw [List.map_cons, nxt, emb_wht, nextEnd]
    split
    · exact nxt_end l
    · rfl
theorem f2 : ∀ (l : List Cr) (b : Cw), filt whtW g2 b (l.map (emb W)) = (around W (endW b) l).map (emb W)
  | [], _ => rfl
  | c :: l, b => by
    have hg : g2 b (emb W c) (nxt whtW (l.map (emb W))) = (wht W c && (endW b || nextEnd W l)) := by
      unfold g2
      rw [nxt_end, emb_wht]
    rw [List.map_cons, filt, hg, emb_wht, around]
    cases hc : wht W c with
    | true =>
      simp only [Bool.true_and, if_true]
      rw [f2 l b]
      split <;> rfl
    | false =>
      simp only [Bool.false_and, Bool.false_eq_true, if_false]
      rw [f2 l (emb W c)]
      rfl
/-- step 3, its first half, by two filters -/
def first3 (W : Int → Int) (p : Bool) : List Cr → List Cr
  | [] => []
  | c :: l => if soft W c && p then first3 W true l else c :: first3 W (soft W c) l
theorem f3 : ∀ (l : List Cr) (b : Cw), filt none1 g3 b (l.map (emb W)) = (first3 W (softW b) l).map (emb W)
  | [], _ => rfl
  | c :: l, b => by
    rw [List.map_cons, filt, first3]
    simp only [g3, emb_soft, none1, Bool.false_eq_true, if_false]
    rw [f3 l (emb W c), emb_soft]
    cases hc : soft W c <;> cases softW b <;> simp
theorem nxt3 : ∀ l : List Cr, hardW (nxt none1 ((first3 W true l).map (emb W))) = nextHard W l
  | [] => rfl
  | c :: l => by
    rw [first3, nextHard]
    cases hc : soft W c with
    | true =>
      simp only [Bool.true_and, if_true]
      exact nxt3 l
    | false =>
      simp only [Bool.false_and, Bool.false_eq_true, if_false, List.map_cons, nxt, none1]
      rw [emb_hard, hc]
      simp
theorem f34 : ∀ (l : List Cr) (b : Bool) (p : Bool) (x : Cw), (p = false → hardW x = b) → filt none1 g4 x ((first3 W p l).map (emb W)) = (several W b p l).map (emb W)
  | [], _, _, _, _ => rfl
  | c :: l, b, p, x, h => by
    rw [first3, several]
    cases hc : soft W c with
    | true =>
      simp only [Bool.true_and, if_true]
      cases p with
      | true =>
        simp only [if_true, Bool.or_true]
        exact f34 l b true x (by simp)
      | false =>
        simp only [Bool.false_eq_true, if_false, List.map_cons, filt, g4, emb_soft, hc, nxt3, none1, h rfl, Bool.true_and, Bool.or_false]
        rw [f34 l b true (emb W c) (by simp)]
        split <;> rfl
    | false =>
      simp only [Bool.false_and, Bool.false_eq_true, if_false, List.map_cons, filt, g4, emb_soft, hc, none1]
      rw [f34 l (endc c) false (emb W c) (fun _ => by rw [emb_hard, hc]; simp)]
/-- step 3, its second half, and steps 4 and 5 -/
theorem emb_turn (c : Cr) : t7 (t6 (t5 (emb W c))) = emb W (turn W c) := by
  unfold turn
  cases hs : soft W c with
  | true =>
    have h5 : t5 (emb W c) = emb W { c with r := 32 } := by unfold t5; rw [emb_soft, hs]; rfl
    have h6 : hardW (emb W { c with r := 32 }) = false := by
      have : endc { c with r := 32 } = false := by simp [endc, is]
      rw [emb_hard, this]; rfl
    have h7 : colW (emb W { c with r := 32 }) 9 = false := by
      have : is { c with r := 32 } 9 = false := by simp [is]
      rw [emb_col, this]; rfl
    simp only [h5, t6, h6, t7, h7, Bool.false_eq_true, if_false, if_true]
  | false =>
    have h5 : t5 (emb W c) = emb W c := by unfold t5; rw [emb_soft, hs]; rfl
    rw [h5]
    cases he : endc c with
    | true =>
      have h6 : t6 (emb W c) = emb W { c with kind := 5, r := 10 } := by unfold t6; rw [emb_hard, hs, he]; rfl
      have h7 : colW (emb W { c with kind := 5, r := 10 }) 9 = false := by
        have : is { c with kind := 5, r := 10 } 9 = false := by simp [is]
        rw [emb_col, this]; rfl
      simp only [h6, t7, h7, Bool.false_eq_true, if_false, if_true]
    | false =>
      have h6 : t6 (emb W c) = emb W c := by unfold t6; rw [emb_hard, hs, he]; rfl
      rw [h6]
      unfold t7
      rw [emb_col]
      simp only [Bool.false_eq_true, if_false]
      cases h9 : is c 9 with
      | true =>
        cases hcl : collW (W c.node) with
        | true =>
          have hw : wht W c = true := by unfold wht; rw [hcl, h9]; simp
          simp only [hw, Bool.and_self, if_true]
          rfl
        | false =>
          have hw : wht W c = false := by unfold wht; rw [hcl]; simp
          simp [hw]
      | false =>
        simp only [Bool.false_and, Bool.false_eq_true, if_false]
        split
        · rename_i hw
          have h32 : is c 32 = true := by
            unfold wht at hw
            rw [h9] at hw
            simp at hw
            exact hw.2
          have : c.r = 32 := by simp [is] at h32; exact h32.2
          rw [← this]
        · rfl
theorem emb_wide (hD : D 10 = false ∧ D 13 = false) (c : Cr) : wideW D (emb W c) = wide D c := by
  unfold wideW wide emb
  cases he : endc c with
  | false => simp
  | true =>
    have : c.r = 10 ∨ c.r = 13 := by
      simp only [endc, is, Bool.or_eq_true, Bool.and_eq_true, decide_eq_true_eq] at he
      rcases he with h | h
      · exact .inl h.2
      · exact .inr h.2
    rcases this with h | h <;> simp [h, hD.1, hD.2]
theorem f5 (hD : D 10 = false ∧ D 13 = false) : ∀ (l : List Cr) (p : Option Cr), (filt none1 (g5 D) (match p with | none => nb | some a => emb W a) (l.map (emb W))).map (t7 ∘ t6 ∘ t5) = (turned W D p l).map (emb W)
  | [], _ => rfl
  | c :: l, p => by
    have hg : g5 D (match p with | none => nb | some a => emb W a) (emb W c) (nxt none1 (l.map (emb W))) = (soft W c && goes D p l) := by
      unfold g5 goes
      rw [nxt_head]
      cases p with
      | none =>
        cases l with
        | nil => simp [nb_is, nb_wide, pIs, hdIs, pWide, hdWide]
        | cons a l => simp [nb_is, nb_wide, pIs, hdIs, pWide, hdWide, emb_is, emb_soft]
      | some y =>
        cases l with
        | nil => simp [nb_is, nb_wide, pIs, hdIs, pWide, hdWide, emb_is, emb_soft, emb_wide hD]
        | cons a l => simp [pIs, hdIs, pWide, hdWide, emb_is, emb_soft, emb_wide hD]
    rw [List.map_cons, filt, hg, turned]
    simp only [none1, Bool.false_eq_true, if_false]
    have ih := f5 hD l (some c)
    split
    · exact ih
    · rw [List.map_cons, List.map_cons]
      refine congr (congrArg _ ?_) ih
      exact emb_turn c
/-- no tab that collapses -/
def NoTab (W : Int → Int) (l : List Cr) : Prop := ∀ c ∈ l, (is c 9 && collW (W c.node)) = false
theorem noTab_turn (c : Cr) : (is (turn W c) 9 && collW (W (turn W c).node)) = false := by
  rw [(turn_node c).1]
  unfold turn
  split
  · simp [is]
  · split
    · simp [is]
    · split
      · simp [is]
      · rename_i h
        unfold wht at h
        cases h9 : is c 9 <;> cases hcl : collW (W c.node) <;> simp_all
theorem noTab_turned : ∀ (l : List Cr) (p : Option Cr), NoTab W (turned W D p l)
  | [], _ => by intro c hc; cases hc
  | c :: l, p => by
    rw [turned]
    split
    · exact noTab_turned l _
    · intro d hd
      rcases List.mem_cons.1 hd with rfl | hd
      · exact noTab_turn c
      · exact noTab_turned l _ d hd
theorem noTab_wht {c : Cr} (h : (is c 9 && collW (W c.node)) = false) : wht W c = (is c 32 && collW (W c.node)) := by
  unfold wht
  cases h9 : is c 9 <;> cases hcl : collW (W c.node) <;> cases h32 : is c 32 <;> simp_all
/-- step 6 -/
theorem f8 : ∀ (l : List Cr) (b : Cw), NoTab W l → filt none1 g8 b (l.map (emb W)) = (rows W (colW b 32) l).map (emb W)
  | [], _, _ => rfl
  | c :: l, b, hn => by
    have hc := hn c (List.mem_cons_self ..)
    have ih := f8 l (emb W c) (fun d hd => hn d (List.mem_cons_of_mem _ hd))
    rw [List.map_cons, filt, rows, noTab_wht hc]
    simp only [g8, emb_col, none1, Bool.false_eq_true, if_false]
    rw [ih, emb_col]
    cases hh : (is c 32 && collW (W c.node)) <;> cases colW b 32 <;> simp
theorem noTab_rows : ∀ (l : List Cr) (p : Bool), NoTab W l → NoTab W (rows W p l)
  | [], _, _ => by intro c hc; cases hc
  | c :: l, p, hn => by
    have h1 := hn c (List.mem_cons_self ..)
    have h2 : NoTab W l := fun d hd => hn d (List.mem_cons_of_mem _ hd)
    rw [rows]
    split
    · exact noTab_rows l _ h2
    · intro d hd
      rcases List.mem_cons.1 hd with rfl | hd
      · exact h1
      · exact noTab_rows l _ h2 d hd
/-- step 7 -/
theorem f9 {c : Cr} (h : (is c 9 && collW (W c.node)) = false) : t9 (emb W c) = emb W (kindOf W c) := by
  unfold t9 kindOf
  rw [noTab_wht h, emb_is, emb_is, emb_col]
  cases h9 : is c 9 with
  | true =>
    have h32 : is c 32 = false := by
      cases h32 : is c 32 with
      | false => rfl
      | true => exact absurd (is_two h9 h32) (by decide)
    simp [h32, emb]
  | false =>
    cases h32 : is c 32 with
    | false => simp
    | true =>
      cases hcl : collW (W c.node) with
      | true => simp [emb]
      | false =>
        simp only [Bool.true_and, Bool.false_eq_true, if_false, if_true]
        have e : (emb W c).w = W c.node := rfl
        rw [e]
        split <;> rfl
/-- what code makes of a list is what the document makes of it -/
theorem nine (hD : D 10 = false ∧ D 13 = false) (l : List Cr) :
    (filt none1 g8 nb (((((filt none1 (g5 D) nb (filt none1 g4 nb (filt none1 g3 nb (filt whtW g2 nb (filt none1 g1 nb (l.map (emb W))))))).map t5).map t6).map t7))).map t9 = (collapse W D l).map (emb W) := by
  rw [f1, f2, f3, nb_end, nb_soft, f34 _ false false nb (fun _ => rfl)]
  have h5 := f5 (W := W) (D := D) hD (several W false false (around W false (pairs l))) none
  simp only [List.map_map]
  have e : (t7 ∘ t6) ∘ t5 = t7 ∘ t6 ∘ t5 := rfl
  have e2 : t7 ∘ (t6 ∘ t5) = t7 ∘ t6 ∘ t5 := rfl
  rw [show ((filt none1 (g5 D) nb ((several W false false (around W false (pairs l))).map (emb W))).map (t7 ∘ t6 ∘ t5)) = _ from h5]
  rw [f8 _ _ (noTab_turned _ _), nb_col]
  have hN := noTab_rows (W := W) (turned W D none (several W false false (around W false (pairs l)))) false (noTab_turned _ _)
  unfold collapse s6 s4 s3 s2
  simp only [List.map_map]
  exact List.map_congr_left fun c hc => f9 (hN c hc)
end
end Go.Proofs.YtejcfhfmdijimaaDoor.Wh
