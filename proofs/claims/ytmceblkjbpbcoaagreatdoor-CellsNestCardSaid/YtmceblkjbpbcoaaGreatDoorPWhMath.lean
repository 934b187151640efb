/- Contracts of layers below. -/
import Derived.Test.YtmceblkjbpbcoaaGreatDoorPBase
namespace Go.Proofs.YtmceblkjbpbcoaaGreatDoor
namespace Wh
structure Cr where
 r : Int
 node : Int
 at_ : Int
 n : Int
 kind : Int
deriving DecidableEq
def is (c : Cr) (r : Int) : Bool := decide (c.kind = 0) && decide (c.r = r)
def qcz (x : Int) : Bool := decide (x = 0) || decide (x = 1) || decide (x = 4)
def wht (W : Int -> Int) (c : Cr) : Bool := qcz (W c.node) && (is c 32 || is c 9)
def qb1 (c : Cr) : Bool := is c 10 || is c 13
def soft (W : Int -> Int) (c : Cr) : Bool := qb1 c && (decide (W c.node = 0) || decide (W c.node = 1))
def wide (D : Int -> Bool) (c : Cr) : Bool := decide (c.kind = 0) && !qb1 c && D c.r
def qz5 (r : Int) : List Cr -> Bool
 | [] => false
 | c :: _ => is c r
def pairs : List Cr -> List Cr
 | [] => []
 | c :: l => if is c 13 && qz5 10 l then pairs l else c :: pairs l
def qbi (W : Int -> Int) : List Cr -> Bool
 | [] => false
 | c :: l => if wht W c then qbi W l else qb1 c
def around (W : Int -> Int) (b : Bool) : List Cr -> List Cr
 | [] => []
 | c :: l => if wht W c then (if b || qbi W l then around W b l else c :: around W b l) else c :: around W (qb1 c) l
def qbc (W : Int -> Int) : List Cr -> Bool
 | [] => false
 | c :: l => if soft W c then qbc W l else qb1 c
def several (W : Int -> Int) (b p : Bool) : List Cr -> List Cr
 | [] => []
 | c :: l => if soft W c then (if b || qbc W l || p then several W b true l else c :: several W b true l) else c :: several W (qb1 c) false l
def pIs (r : Int) : Option Cr -> Bool
 | none => false
 | some a => is a r
def qn7 (D : Int -> Bool) : Option Cr -> Bool
 | none => false
 | some a => wide D a
def qjz (D : Int -> Bool) : List Cr -> Bool
 | [] => false
 | b :: _ => wide D b
def goes (D : Int -> Bool) (p : Option Cr) (q : List Cr) : Bool := pIs 8203 p || qz5 8203 q || qn7 D p && qjz D q
def turn (W : Int -> Int) (c : Cr) : Cr := if soft W c then { c with r := 32 } else if qb1 c then { c with kind := 5, r := 10 } else if wht W c then { c with r := 32 } else c
def turned (W : Int -> Int) (D : Int -> Bool) (p : Option Cr) : List Cr -> List Cr
 | [] => []
 | c :: l => if soft W c && goes D p l then turned W D (some c) l else turn W c :: turned W D (some c) l
def rows (W : Int -> Int) (p : Bool) : List Cr -> List Cr
 | [] => []
 | c :: l => if wht W c && p then rows W true l else c :: rows W (wht W c) l
def kindOf (W : Int -> Int) (c : Cr) : Cr :=
 if wht W c then { c with kind := 1 } else if is c 9 then { c with kind := 4 } else if is c 32 && decide (W c.node = 3) then { c with kind := 2 } else if is c 32 then { c with kind := 3 } else c
def s2 (W : Int -> Int) (l : List Cr) := around W false (pairs l)
def s3 (W : Int -> Int) (l : List Cr) := several W false false (s2 W l)
def s4 (W : Int -> Int) (D : Int -> Bool) (l : List Cr) := turned W D none (s3 W l)
def s6 (W : Int -> Int) (D : Int -> Bool) (l : List Cr) := rows W false (s4 W D l)
def qb0 (W : Int -> Int) (D : Int -> Bool) (l : List Cr) : List Cr := (s6 W D l).map (kindOf W)
def atom : Cr := ⟨65532, 0, 0, 0, 6⟩
theorem qrs (r : Int) : is atom r = false := rfl
section
variable {W : Int -> Int} {D : Int -> Bool}
theorem qhz : wht W atom = false := by simp [wht, qrs]
theorem qj9 : qb1 atom = false := rfl
theorem qje : soft W atom = false := by simp [soft, qj9]
theorem qp3 : turn W atom = atom := by simp [turn, qje, qj9, qhz]
theorem qpq : wide D atom = false := rfl
theorem qoe (q : List Cr) : goes D (some atom) q = goes D none q := by simp [goes, pIs, qn7, qrs, qpq]
theorem qjb (m : List Cr) : turned W D (some atom) m = turned W D none m := by
 cases m with
 | nil => rfl
 | cons c m => simp only [turned, qoe]
end
def blank (c : Cr) : Bool := decide (c.kind = 0) && (decide (c.r = 32) || decide (c.r = 9) || decide (c.r = 10) || decide (c.r = 13))
inductive Left : List Cr -> List Cr -> Prop
 | nil : Left [] []
 | skip {c l a} : blank c = true -> Left l a -> Left (c :: l) a
 | keep {c d l a} : (blank c = false -> d = c) -> d.node = c.node -> d.at_ = c.at_ -> d.n = c.n -> Left l a -> Left (c :: l) (d :: a)
theorem Left.refl : ∀ l, Left l l
 | [] => .nil
 | _ :: l => .keep (fun _ => rfl) rfl rfl rfl (Left.refl l)
theorem Left.trans {l a b : List Cr} (h : Left l a) : Left a b -> Left l b := by
 induction h generalizing b with
 | nil => exact id
 | skip hc _ ih => exact fun h2 => .skip hc (ih h2)
 | keep hb h1 h2 h3 _ ih =>
   rename_i c d l a _
   intro h4
   cases h4 with
   | skip hd h5 =>
     by_cases hc : blank c = true
     ·exact .skip hc (ih h5)
     ·rw [hb (by simpa using hc)] at hd
      exact absurd hd hc
   | keep hd h5 h6 h7 h8 =>
     refine .keep (fun hc => ?_) (h5.trans h1) (h6.trans h2) (h7.trans h3) (ih h8)
     have e := hb hc
     rw [hd (by rw [e]; exact hc), e]
theorem qcl {c : Cr} {r : Int} (h : is c r = true) (hr : r = 32 \/ r = 9 \/ r = 10 \/ r = 13) : blank c = true := by
 simp only [is, Bool.and_eq_true, decide_eq_true_eq] at h
 obtain ⟨h1, h2⟩ := h
 unfold blank
 rw [h1, h2]
 rcases hr with rfl | rfl | rfl | rfl <;> rfl
section
variable {W : Int -> Int} {D : Int -> Bool}
theorem qdy {c : Cr} (h : wht W c = true) : blank c = true := by
 simp only [wht, Bool.and_eq_true, Bool.or_eq_true] at h
 rcases h.2 with h | h
 ·exact qcl h (by omega)
 ·exact qcl h (by omega)
theorem qet {c : Cr} (h : qb1 c = true) : blank c = true := by
 simp only [qb1, Bool.or_eq_true] at h
 rcases h with h | h
 ·exact qcl h (by omega)
 ·exact qcl h (by omega)
theorem qbo {c : Cr} (h : soft W c = true) : qb1 c = true := by
 simp only [soft, Bool.and_eq_true] at h
 exact h.1
theorem qeo : ∀ l, Left l (pairs l)
 | [] => .nil
 | c :: l => by
   unfold pairs
   split
   ·rename_i h
    simp only [Bool.and_eq_true] at h
    exact .skip (qcl h.1 (by omega)) (qeo l)
   ·exact .keep (fun _ => rfl) rfl rfl rfl (qeo l)
theorem qch : ∀ l b, Left l (around W b l)
 | [], _ => .nil
 | c :: l, b => by
   unfold around
   split
   ·rename_i h
    split
    ·exact .skip (qdy h) (qch l b)
    ·exact .keep (fun _ => rfl) rfl rfl rfl (qch l b)
   ·exact .keep (fun _ => rfl) rfl rfl rfl (qch l _)
theorem qbz : ∀ l b p, Left l (several W b p l)
 | [], _, _ => .nil
 | c :: l, b, p => by
   unfold several
   split
   ·rename_i h
    split
    ·exact .skip (qet (qbo h)) (qbz l b true)
    ·exact .keep (fun _ => rfl) rfl rfl rfl (qbz l b true)
   ·exact .keep (fun _ => rfl) rfl rfl rfl (qbz l _ false)
theorem qp1 {c : Cr} (h : blank c = false) : turn W c = c := by
 have h1 : wht W c = false := by cases hw : wht W c with | false => rfl | true => rw [qdy hw] at h; cases h
 have h2 : qb1 c = false := by cases hw : qb1 c with | false => rfl | true => rw [qet hw] at h; cases h
 have h3 : soft W c = false := by simp [soft, h2]
 simp [turn, h1, h2, h3]
theorem qco (c : Cr) : (turn W c).node = c.node /\ (turn W c).at_ = c.at_ /\ (turn W c).n = c.n := by
 unfold turn
 split
 ·exact ⟨rfl, rfl, rfl⟩
 ·split
  ·exact ⟨rfl, rfl, rfl⟩
  ·split <;> exact ⟨rfl, rfl, rfl⟩
theorem qds : ∀ l p, Left l (turned W D p l)
 | [], _ => .nil
 | c :: l, p => by
   unfold turned
   split
   ·rename_i h
    simp only [Bool.and_eq_true] at h
    exact .skip (qet (qbo h.1)) (qds l _)
   ·exact .keep qp1 (qco c).1 (qco c).2.1 (qco c).2.2 (qds l _)
theorem qgc : ∀ l p, Left l (rows W p l)
 | [], _ => .nil
 | c :: l, p => by
   unfold rows
   split
   ·rename_i h
    simp only [Bool.and_eq_true] at h
    exact .skip (qdy h.1) (qgc l _)
   ·exact .keep (fun _ => rfl) rfl rfl rfl (qgc l _)
theorem qk6 {c : Cr} (h : blank c = false) : kindOf W c = c := by
 have h1 : wht W c = false := by cases hw : wht W c with | false => rfl | true => rw [qdy hw] at h; cases h
 have h2 : is c 9 = false := by cases hw : is c 9 with | false => rfl | true => rw [qcl hw (by omega)] at h; cases h
 have h3 : is c 32 = false := by cases hw : is c 32 with | false => rfl | true => rw [qcl hw (by omega)] at h; cases h
 simp [kindOf, h1, h2, h3]
theorem qdt (c : Cr) : (kindOf W c).node = c.node /\ (kindOf W c).at_ = c.at_ /\ (kindOf W c).n = c.n /\ (kindOf W c).r = c.r := by
 unfold kindOf
 split
 ·exact ⟨rfl, rfl, rfl, rfl⟩
 ·split
  ·exact ⟨rfl, rfl, rfl, rfl⟩
  ·split
   ·exact ⟨rfl, rfl, rfl, rfl⟩
   ·split <;> exact ⟨rfl, rfl, rfl, rfl⟩
theorem qhk : ∀ l, Left l (l.map (kindOf W))
 | [] => .nil
 | c :: l => .keep qk6 (qdt c).1 (qdt c).2.1 (qdt c).2.2.1 (qhk l)
theorem qin (l : List Cr) : Left l (qb0 W D l) :=
 (qeo l).trans ((qch _ _).trans ((qbz _ _ _).trans ((qds _ _).trans ((qgc _ _).trans (qhk _)))))
end
theorem Left.mem {l a : List Cr} (h : Left l a) : ∀ d ∈ a, ∃ c ∈ l, d.node = c.node /\ d.at_ = c.at_ := by
 induction h with
 | nil => intro d hd; cases hd
 | skip _ _ ih =>
   intro d hd
   obtain ⟨c, h1, h2⟩ := ih d hd
   exact ⟨c, List.mem_cons_of_mem _ h1, h2⟩
 | keep _ h1 h2 _ _ ih =>
   intro d hd
   rcases List.mem_cons.1 hd with rfl | hd
   ·exact ⟨_, List.mem_cons_self .., h1, h2⟩
   ·obtain ⟨c, h1, h2⟩ := ih d hd
    exact ⟨c, List.mem_cons_of_mem _ h1, h2⟩
end Wh
namespace Wh
section
variable {W : Int -> Int} {D : Int -> Bool}
def Adj (R : Cr -> Cr -> Prop) : List Cr -> Prop
 | [] => True
 | [_] => True
 | a :: b :: l => R a b /\ Adj R (b :: l)
theorem Adj.tail {R : Cr -> Cr -> Prop} {a : Cr} : ∀ {l : List Cr}, Adj R (a :: l) -> Adj R l
 | [], _ => trivial
 | _ :: _, h => h.2
theorem Adj.cons {R : Cr -> Cr -> Prop} {a b : Cr} {l : List Cr} (h : R a b) (h2 : Adj R (b :: l)) : Adj R (a :: b :: l) := ⟨h, h2⟩
theorem qxm {c : Cr} {r s : Int} (h : is c r = true) (h2 : is c s = true) : r = s := by
 simp only [is, Bool.and_eq_true, decide_eq_true_eq] at h h2
 omega
theorem qpr {c : Cr} (h : wht W c = true) : qb1 c = false := by
 cases he : qb1 c with
 | false => rfl
 | true =>
   simp only [wht, qb1, Bool.and_eq_true, Bool.or_eq_true] at h he
   rcases h.2 with h1 | h1 <;> rcases he with h2 | h2 <;> exact absurd (qxm h1 h2) (by decide)
def Q2 (W : Int -> Int) (x y : Cr) : Prop := ¬ (wht W x = true /\ qb1 y = true) /\ ¬ (qb1 x = true /\ wht W y = true)
inductive At2 (W : Int -> Int) (b : Bool) (l : List Cr) (x c : Cr) : Prop
 | other : wht W c = false -> x = c -> b = qb1 c -> At2 W b l x c
 | stayed : wht W x = true -> b = false -> qbi W l = false -> At2 W b l x c
 | gone : wht W x = false -> b = qb1 x -> (b = false -> qbi W l = true) -> At2 W b l x c
theorem qo4 : ∀ (l : List Cr) (b : Bool) (x c : Cr), At2 W b l x c -> Adj (Q2 W) (x :: around W b l) := by
 intro l
 induction l with
 | nil => intro b x c _; trivial
 | cons y l ih =>
   intro b x c h
   unfold around
   cases hy : wht W y with
   | true =>
     rw [if_pos rfl]
     have hn : qbi W (y :: l) = qbi W l := by rw [qbi, if_pos hy]
     split
     ·rename_i hr
      refine ih b x y ?_
      rcases h with ⟨h1, rfl, h3⟩ | ⟨h1, h2, h3⟩ | ⟨h1, h2, h3⟩
      ·refine .gone h1 h3 fun hb => ?_
       rw [hb, Bool.false_or] at hr
       exact hr
      ·rw [hn] at h3
       rw [h2, h3] at hr
       cases hr
      ·exact .gone h1 h2 fun hb => by rw [<- hn]; exact h3 hb
     ·rename_i hr
      have hr : b = false /\ qbi W l = false := by
       cases b <;> cases hq : qbi W l <;> simp_all
      refine Adj.cons ⟨fun h5 => ?_, fun h5 => ?_⟩ (ih b y y (.stayed hy hr.1 hr.2))
      ·rw [qpr hy] at h5; cases h5.2
      ·rcases h with ⟨h1, rfl, h3⟩ | ⟨h1, h2, h3⟩ | ⟨h1, h2, h3⟩
       ·rw [<- h3, hr.1] at h5; cases h5.1
       ·rw [qpr h1] at h5; cases h5.1
       ·rw [<- h2, hr.1] at h5; cases h5.1
   | false =>
     rw [if_neg (by simp)]
     refine Adj.cons ⟨fun h5 => ?_, fun h5 => ?_⟩ (ih _ y y (.other hy rfl rfl))
     ·rcases h with ⟨h1, rfl, h3⟩ | ⟨h1, h2, h3⟩ | ⟨h1, h2, h3⟩
      ·rw [h1] at h5; cases h5.1
      ·rw [qbi, hy] at h3
       simp only [Bool.false_eq_true, if_false] at h3
       rw [h3] at h5; cases h5.2
      ·rw [h1] at h5; cases h5.1
     ·rw [hy] at h5; cases h5.2
def Q3 (W : Int -> Int) (x y : Cr) : Prop := Q2 W x y /\ ¬ (soft W x = true /\ qb1 y = true) /\ ¬ (qb1 x = true /\ soft W y = true)
inductive At3 (W : Int -> Int) (b p : Bool) (l : List Cr) (x c : Cr) : Prop
 | other : soft W c = false -> x = c -> b = qb1 c -> p = false -> At3 W b p l x c
 | stayed : soft W c = true -> soft W x = true -> p = true -> b = false -> qbc W l = false -> At3 W b p l x c
 | gone : soft W c = true -> soft W x = false -> wht W x = false -> p = true -> b = qb1 x -> (b = false -> qbc W l = true) -> At3 W b p l x c
theorem qkv : ∀ (l : List Cr) (b p : Bool) (x c : Cr), At3 W b p l x c -> Adj (Q2 W) (c :: l) -> Adj (Q3 W) (x :: several W b p l) := by
 intro l
 induction l with
 | nil => intro b p x c _ _; trivial
 | cons y l ih =>
   intro b p x c h hA
   obtain ⟨⟨q1, q2⟩, hA2⟩ := hA
   unfold several
   cases hy : soft W y with
   | true =>
     rw [if_pos rfl]
     have hn : qbc W (y :: l) = qbc W l := by rw [qbc, if_pos hy]
     have hye := qbo hy
     split
     ·rename_i hr
      refine ih b true x y ?_ hA2
      rcases h with ⟨h1, rfl, h3, h4⟩ | ⟨h1, h2, h3, h4, h5⟩ | ⟨h1, h2, h3, h4, h5, h6⟩
      ·refine .gone hy h1 ?_ rfl h3 fun hb => ?_
       ·cases hw : wht W x with
        | false => rfl
        | true => exact absurd ⟨hw, hye⟩ q1
       ·rw [hb, h4, Bool.false_or, Bool.or_false] at hr
        exact hr
      ·exact .stayed hy h2 rfl h4 (by rw [<- hn]; exact h5)
      ·exact .gone hy h2 h3 rfl h5 fun hb => by rw [<- hn]; exact h6 hb
     ·rename_i hr
      have hr : b = false /\ qbc W l = false /\ p = false := by
       cases b <;> cases p <;> cases hq : qbc W l <;> simp_all
      obtain ⟨r1, r2, r3⟩ := hr
      rcases h with ⟨h1, rfl, h3, h4⟩ | ⟨h1, h2, h3, h4, h5⟩ | ⟨h1, h2, h3, h4, h5, h6⟩
      ·refine Adj.cons ⟨⟨q1, q2⟩, fun h => ?_, fun h => ?_⟩ (ih b true y y (.stayed hy hy rfl r1 r2) hA2)
       ·rw [h1] at h; cases h.1
       ·rw [<- h3, r1] at h; cases h.1
      ·rw [h3] at r3; cases r3
      ·rw [h4] at r3; cases r3
   | false =>
     rw [if_neg (by simp)]
     refine Adj.cons ?_ (ih _ false y y (.other hy rfl rfl rfl) hA2)
     rcases h with ⟨h1, rfl, h3, h4⟩ | ⟨h1, h2, h3, h4, h5⟩ | ⟨h1, h2, h3, h4, h5, h6⟩
     ·exact ⟨⟨q1, q2⟩, fun h => by (rw [h1] at h; cases h.1), fun h => by (rw [hy] at h; cases h.2)⟩
     ·rw [qbc, hy] at h5
      simp only [Bool.false_eq_true, if_false] at h5
      exact ⟨⟨fun h => by (rw [h5] at h; cases h.2), fun h => q2 ⟨qbo h1, h.2⟩⟩, fun h => by (rw [h5] at h; cases h.2), fun h => by (rw [hy] at h; cases h.2)⟩
     ·exact ⟨⟨fun h => by (rw [h3] at h; cases h.1), fun h => q2 ⟨qbo h1, h.2⟩⟩, fun h => by (rw [h2] at h; cases h.1), fun h => by (rw [hy] at h; cases h.2)⟩
def Lk (c : Cr) : Prop := c.kind = 5 /\ c.r = 10
theorem qhy {c : Cr} (h : wht W c = true) : c.kind = 0 := by
 simp only [wht, is, Bool.and_eq_true, Bool.or_eq_true, decide_eq_true_eq] at h
 rcases h.2 with h | h <;> exact h.1
theorem qr8 {c : Cr} (h : qb1 c = true) : c.kind = 0 := by
 simp only [qb1, is, Bool.and_eq_true, Bool.or_eq_true, decide_eq_true_eq] at h
 rcases h with h | h <;> exact h.1
theorem qfh {c : Cr} (h : wht W (turn W c) = true) : (wht W c = true \/ soft W c = true) /\ (turn W c).r = 32 := by
 unfold turn at h |-
 split at h
 ·rename_i hs
  rw [if_pos hs]
  exact ⟨.inr hs, rfl⟩
 ·rename_i hs
  rw [if_neg hs]
  split at h
  ·exact absurd (qhy h) (show ¬ (5 : Int) = 0 by decide)
  ·rename_i he
   rw [if_neg he]
   split at h
   ·rename_i hw
    rw [if_pos hw]
    exact ⟨.inl hw, rfl⟩
   ·rename_i hw
    exact absurd h hw
theorem qh5 {c : Cr} (hm : c.kind = 5 -> c.r ≠ 10) (h : Lk (turn W c)) : qb1 c = true /\ soft W c = false := by
 unfold turn at h
 split at h
 ·rename_i hs
  have := qr8 (qbo hs)
  have h1 := h.1
  simp only [this] at h1
  omega
 ·rename_i hs
  split at h
  ·rename_i he
   exact ⟨he, by simpa using hs⟩
  ·split at h
   ·rename_i hw
    have := qhy hw
    have h1 := h.1
    simp only [this] at h1
    omega
   ·exact absurd h.2 (hm h.1)
theorem qtf (c : Cr) : qb1 (turn W c) = false := by
 unfold turn
 split
 ·simp [qb1, is]
 ·split
  ·simp [qb1, is]
  ·rename_i he
   split
   ·simp [qb1, is]
   ·simpa using he
def Q4 (W : Int -> Int) (x y : Cr) : Prop := ¬ (wht W x = true /\ Lk y) /\ ¬ (Lk x /\ wht W y = true)
theorem qnf : ∀ (l : List Cr) (x p : Cr), (∀ c ∈ l, c.kind = 5 -> c.r ≠ 10) -> (x.kind = 5 -> x.r ≠ 10) -> (x = p \/ soft W p = true /\ wht W x = false /\ qb1 x = false) -> Adj (Q3 W) (p :: l) -> Adj (Q4 W) (turn W x :: turned W D (some p) l) := by
 intro l
 induction l with
 | nil => intro x p _ _ _ _; trivial
 | cons y l ih =>
   intro x p hm hx hc hA
   obtain ⟨⟨⟨q1, q2⟩, q3, q4⟩, hA2⟩ := hA
   have hml : ∀ c ∈ l, c.kind = 5 -> c.r ≠ 10 := fun c hc => hm c (List.mem_cons_of_mem _ hc)
   have hmy := hm y (List.mem_cons_self ..)
   unfold turned
   split
   ·rename_i hr
    simp only [Bool.and_eq_true] at hr
    have hye := qbo hr.1
    refine ih x y hml hx (.inr ?_) hA2
    rcases hc with rfl | ⟨h1, h2, h3⟩
    ·refine ⟨hr.1, ?_, ?_⟩
     ·cases hw : wht W x with
      | false => rfl
      | true => exact absurd ⟨hw, hye⟩ q1
     ·cases hw : qb1 x with
      | false => rfl
      | true => exact absurd ⟨hw, hr.1⟩ q4
    ·exact ⟨hr.1, h2, h3⟩
   ·refine Adj.cons ?_ (ih y y hml hmy (.inl rfl) hA2)
    rcases hc with rfl | ⟨h1, h2, h3⟩
    ·refine ⟨fun ⟨h1, h2⟩ => ?_, fun ⟨h1, h2⟩ => ?_⟩
     ·have he := (qh5 hmy h2).1
      rcases (qfh h1).1 with h | h
      ·exact q1 ⟨h, he⟩
      ·exact q3 ⟨h, he⟩
     ·have he := (qh5 hx h1).1
      rcases (qfh h2).1 with h | h
      ·exact q2 ⟨he, h⟩
      ·exact q4 ⟨he, h⟩
    ·refine ⟨fun ⟨h4, h5⟩ => ?_, fun ⟨h4, h5⟩ => ?_⟩
     ·rcases (qfh h4).1 with h | h
      ·rw [h2] at h; cases h
      ·rw [qbo h] at h3; cases h3
     ·rw [(qh5 hx h4).1] at h3; cases h3
def Q6 (W : Int -> Int) (x y : Cr) : Prop := Q4 W x y /\ ¬ (wht W x = true /\ wht W y = true)
theorem qty : ∀ (l : List Cr) (x c : Cr), (x = c \/ wht W x = true /\ wht W c = true) -> Adj (Q4 W) (c :: l) -> Adj (Q6 W) (x :: rows W (wht W c) l) := by
 intro l
 induction l with
 | nil => intro x c _ _; trivial
 | cons y l ih =>
   intro x c hc hA
   obtain ⟨⟨q1, q2⟩, hA2⟩ := hA
   unfold rows
   split
   ·rename_i hr
    simp only [Bool.and_eq_true] at hr
    have hx : wht W x = true := by
     rcases hc with rfl | h
     ·exact hr.2
     ·exact h.1
    have := ih x y (.inr ⟨hx, hr.1⟩) hA2
    rwa [hr.1] at this
   ·rename_i hr
    have hr : ¬ (wht W y = true /\ wht W c = true) := by simpa using hr
    refine Adj.cons ?_ (ih y y (.inl rfl) hA2)
    rcases hc with rfl | ⟨h1, h2⟩
    ·exact ⟨⟨q1, q2⟩, fun h => hr ⟨h.2, h.1⟩⟩
    ·exact ⟨⟨fun h => q1 ⟨h2, h.2⟩, fun h => by (have := qhy h1; have := h.1.1; omega)⟩, fun h => hr ⟨h.2, h2⟩⟩
theorem qf9 {c : Cr} : ∀ {l : List Cr}, c ∈ pairs l -> c ∈ l
 | [], h => h
 | d :: l, h => by
   unfold pairs at h
   split at h
   ·exact List.mem_cons_of_mem _ (qf9 h)
   ·rcases List.mem_cons.1 h with rfl | h
    ·exact List.mem_cons_self ..
    ·exact List.mem_cons_of_mem _ (qf9 h)
theorem qdg {c : Cr} : ∀ {l : List Cr} {b : Bool}, c ∈ around W b l -> c ∈ l
 | [], _, h => h
 | d :: l, b, h => by
   unfold around at h
   split at h
   ·split at h
    ·exact List.mem_cons_of_mem _ (qdg h)
    ·rcases List.mem_cons.1 h with rfl | h
     ·exact List.mem_cons_self ..
     ·exact List.mem_cons_of_mem _ (qdg h)
   ·rcases List.mem_cons.1 h with rfl | h
    ·exact List.mem_cons_self ..
    ·exact List.mem_cons_of_mem _ (qdg h)
theorem qcf {c : Cr} : ∀ {l : List Cr} {b p : Bool}, c ∈ several W b p l -> c ∈ l
 | [], _, _, h => h
 | d :: l, b, p, h => by
   unfold several at h
   split at h
   ·split at h
    ·exact List.mem_cons_of_mem _ (qcf h)
    ·rcases List.mem_cons.1 h with rfl | h
     ·exact List.mem_cons_self ..
     ·exact List.mem_cons_of_mem _ (qcf h)
   ·rcases List.mem_cons.1 h with rfl | h
    ·exact List.mem_cons_self ..
    ·exact List.mem_cons_of_mem _ (qcf h)
theorem qen {d : Cr} : ∀ {l : List Cr} {p : Option Cr}, d ∈ turned W D p l -> ∃ c ∈ l, d = turn W c
 | [], _, h => by cases h
 | e :: l, p, h => by
   unfold turned at h
   split at h
   ·obtain ⟨c, h1, h2⟩ := qen h
    exact ⟨c, List.mem_cons_of_mem _ h1, h2⟩
   ·rcases List.mem_cons.1 h with rfl | h
    ·exact ⟨e, List.mem_cons_self .., rfl⟩
    ·obtain ⟨c, h1, h2⟩ := qen h
     exact ⟨c, List.mem_cons_of_mem _ h1, h2⟩
theorem qik {c : Cr} : ∀ {l : List Cr} {p : Bool}, c ∈ rows W p l -> c ∈ l
 | [], _, h => h
 | d :: l, p, h => by
   unfold rows at h
   split at h
   ·exact List.mem_cons_of_mem _ (qik h)
   ·rcases List.mem_cons.1 h with rfl | h
    ·exact List.mem_cons_self ..
    ·exact List.mem_cons_of_mem _ (qik h)
structure Six (W : Int -> Int) (l : List Cr) : Prop where
 ends : ∀ c ∈ l, qb1 c = false
 sp : ∀ c ∈ l, wht W c = true -> c.r = 32
 lk : ∀ c ∈ l, Lk c -> ¬ (W c.node = 0 \/ W c.node = 1)
 kind : ∀ c ∈ l, c.kind = 0 \/ c.kind = 5 \/ c.kind = 6
 adj : Adj (Q6 W) l
theorem qp2 {c : Cr} (h : c.kind = 0 \/ c.kind = 5 \/ c.kind = 6) : (turn W c).kind = 0 \/ (turn W c).kind = 5 \/ (turn W c).kind = 6 := by
 unfold turn
 split
 ·exact h
 ·split
  ·exact .inr (.inl rfl)
  ·split <;> exact h
theorem six (l : List Cr) (hk : ∀ c ∈ l, c.kind = 0 \/ c.kind = 5 \/ c.kind = 6) (hm : ∀ c ∈ l, c.kind = 5 -> c.r ≠ 10) : Six W (s6 W D l) := by
 have hl3 : ∀ c ∈ s3 W l, c ∈ l := fun c h => qf9 (qdg (qcf h))
 have a2 : Adj (Q2 W) (atom :: s2 W l) := qo4 (pairs l) false atom atom (.other qhz rfl rfl)
 have a3 : Adj (Q3 W) (atom :: s3 W l) := qkv (s2 W l) false false atom atom (.other qje rfl rfl rfl) a2
 have a4 : Adj (Q4 W) (atom :: s4 W D l) := by
  have := qnf (D := D) (s3 W l) atom atom (fun c h => hm c (hl3 c h)) (by decide) (.inl rfl) a3
  rwa [qp3, qjb] at this
 have a6 : Adj (Q6 W) (atom :: s6 W D l) := by
  have := qty (s4 W D l) atom atom (.inl rfl) a4
  rwa [qhz] at this
 have hmem : ∀ d ∈ s6 W D l, ∃ c ∈ l, d = turn W c := fun d h => by
  obtain ⟨c, h1, h2⟩ := qen (qik h)
  exact ⟨c, hl3 c h1, h2⟩
 refine ⟨fun d h => ?_, fun d h hw => ?_, fun d h hL => ?_, fun d h => ?_, a6.tail⟩
 ·obtain ⟨c, _, rfl⟩ := hmem d h
  exact qtf c
 ·obtain ⟨c, _, rfl⟩ := hmem d h
  exact (qfh hw).2
 ·obtain ⟨c, hc, rfl⟩ := hmem d h
  obtain ⟨h1, h2⟩ := qh5 (hm c hc) hL
  rw [(qco c).1]
  intro h3
  have : soft W c = true := by simp [soft, h1, h3]
  rw [h2] at this
  cases this
 ·obtain ⟨c, hc, rfl⟩ := hmem d h
  exact qp2 (hk c hc)
end
end Wh
namespace Wh
section
variable {W : Int -> Int} {D : Int -> Bool}
theorem Adj.map {R S : Cr -> Cr -> Prop} (f : Cr -> Cr) : ∀ {l : List Cr}, (∀ x ∈ l, ∀ y ∈ l, R x y -> S (f x) (f y)) -> Adj R l -> Adj S (l.map f)
 | [], _, _ => trivial
 | [_], _, _ => trivial
 | a :: b :: l, h, hA => ⟨h a (List.mem_cons_self ..) b (List.mem_cons_of_mem _ (List.mem_cons_self ..)) hA.1, Adj.map f (l := b :: l) (fun x hx y hy => h x (List.mem_cons_of_mem _ hx) y (List.mem_cons_of_mem _ hy)) hA.2⟩
theorem qjx (c : Cr) : (wht W c = true /\ kindOf W c = { c with kind := 1 }) \/ (wht W c = false /\ is c 9 = true /\ kindOf W c = { c with kind := 4 }) ∨
 (wht W c = false /\ is c 9 = false /\ is c 32 = true /\ W c.node = 3 /\ kindOf W c = { c with kind := 2 }) \/ (wht W c = false /\ is c 9 = false /\ is c 32 = true /\ W c.node ≠ 3 /\ kindOf W c = { c with kind := 3 }) \/ (wht W c = false /\ is c 9 = false /\ is c 32 = false /\ kindOf W c = c) := by
 unfold kindOf
 cases h1 : wht W c with
 | true => exact .inl ⟨rfl, by simp⟩
 | false =>
   cases h2 : is c 9 with
   | true => exact .inr (.inl ⟨rfl, rfl, by simp⟩)
   | false =>
     cases h3 : is c 32 with
     | true =>
       by_cases h4 : W c.node = 3
       ·exact .inr (.inr (.inl ⟨rfl, rfl, rfl, h4, by simp [h4]⟩))
       ·exact .inr (.inr (.inr (.inl ⟨rfl, rfl, rfl, h4, by simp [h4]⟩)))
     | false => exact .inr (.inr (.inr (.inr ⟨rfl, rfl, rfl, by simp⟩)))
theorem Adj.imp {R S : Cr -> Cr -> Prop} {l : List Cr} (h : ∀ x y, R x y -> S x y) (hA : Adj R l) : Adj S l := by
 have := Adj.map (S := S) id (fun x _ y _ => h x y) hA
 rwa [List.map_id] at this
end
end Wh
namespace Wh
section
variable {W : Int -> Int} {D : Int -> Bool}
theorem drop_at {α : Type} {l : List α} {i : Nat} {c : α} (h : l[i]? = some c) : l.drop i = c :: l.drop (i + 1) := by
 obtain ⟨hi, he⟩ := xah h
 rw [List.drop_eq_getElem_cons hi, he]
theorem qmv {α : Type} {l : List α} {i : Nat} (h : l.length <= i) : l.drop i = [] := List.drop_of_length_le h
theorem Left.len {l a : List Cr} (h : Left l a) : a.length <= l.length := by
 induction h with
 | nil => exact xat
 | skip _ _ ih => simp only [List.length_cons]; omega
 | keep _ _ _ _ _ ih => simp only [List.length_cons]; omega
end
end Wh
namespace Wh
structure Cw where
 c : Cr
 w : Int
deriving DecidableEq
def emb (W : Int -> Int) (c : Cr) : Cw := ⟨c, W c.node⟩
def nb : Cw := ⟨⟨0, 0, 0, 0, 6⟩, 0⟩
def nxt (past : Cw -> Bool) : List Cw -> Cw
 | [] => nb
 | c :: l => if past c then nxt past l else c
def filt (past : Cw -> Bool) (gone : Cw -> Cw -> Cw -> Bool) (b : Cw) : List Cw -> List Cw
 | [] => []
 | c :: l => if gone b c (nxt past l) then filt past gone (if past c then b else c) l else c :: filt past gone (if past c then b else c) l
def isW (x : Cw) (r : Int) : Bool := is x.c r
def endW (x : Cw) : Bool := qb1 x.c
def softW (x : Cw) : Bool := endW x && (decide (x.w = 0) || decide (x.w = 1))
def hardW (x : Cw) : Bool := endW x && !softW x
def colW (x : Cw) (r : Int) : Bool := isW x r && qcz x.w
def whtW (x : Cw) : Bool := colW x 32 || colW x 9
def wideW (D : Int -> Bool) (x : Cw) : Bool := decide (x.c.kind = 0) && D x.c.r
def none1 (_ : Cw) : Bool := false
def g1 (_ c a : Cw) : Bool := isW c 13 && isW a 10
def g2 (b c a : Cw) : Bool := whtW c && (endW b || endW a)
def g3 (b c _ : Cw) : Bool := softW c && softW b
def g4 (b c a : Cw) : Bool := softW c && (hardW b || hardW a)
def g5 (D : Int -> Bool) (b c a : Cw) : Bool := softW c && (isW b 8203 || isW a 8203 || (wideW D b && wideW D a))
def t5 (x : Cw) : Cw := if softW x then { x with c := { x.c with r := 32 } } else x
def t6 (x : Cw) : Cw := if hardW x then { x with c := { x.c with r := 10, kind := 5 } } else x
def t7 (x : Cw) : Cw := if colW x 9 then { x with c := { x.c with r := 32 } } else x
def g8 (b c _ : Cw) : Bool := colW c 32 && colW b 32
def t9 (x : Cw) : Cw := if isW x 9 then { x with c := { x.c with kind := 4 } } else if colW x 32 then { x with c := { x.c with kind := 1 } } else if isW x 32 && decide (x.w = 3) then { x with c := { x.c with kind := 2 } } else if isW x 32 then { x with c := { x.c with kind := 3 } } else x
section
variable {W : Int -> Int} {D : Int -> Bool}
theorem qka (c : Cr) (r : Int) : isW (emb W c) r = is c r := rfl
theorem qbs (c : Cr) : softW (emb W c) = soft W c := rfl
theorem qea (c : Cr) : hardW (emb W c) = (qb1 c && !soft W c) := rfl
theorem qcy (c : Cr) (r : Int) : colW (emb W c) r = (is c r && qcz (W c.node)) := rfl
theorem qle (c : Cr) : whtW (emb W c) = wht W c := by
 unfold whtW wht
 rw [qcy, qcy]
 cases qcz (W c.node) <;> cases is c 32 <;> cases is c 9 <;> rfl
theorem qzo (r : Int) : isW nb r = false := rfl
theorem nb_end : endW nb = false := rfl
theorem qzn : softW nb = false := rfl
theorem nb_col (r : Int) : colW nb r = false := rfl
theorem qk4 : wideW D nb = false := rfl
theorem qmh (l : List Cr) : nxt none1 (l.map (emb W)) = match l with | [] => nb | c :: _ => emb W c := by
 cases l with
 | nil => rfl
 | cons c l => simp [nxt, none1]
theorem f1 : ∀ (l : List Cr) (b : Cw), filt none1 g1 b (l.map (emb W)) = (pairs l).map (emb W)
 | [], _ => rfl
 | c :: l, b => by
   have hg : g1 b (emb W c) (nxt none1 (l.map (emb W))) = (is c 13 && qz5 10 l) := by
    rw [qmh]
    cases l <;> rfl
   rw [List.map_cons, filt, hg, pairs, f1 l]
   split <;> rfl
theorem qra : ∀ l : List Cr, endW (nxt whtW (l.map (emb W))) = qbi W l
 | [] => rfl
 | c :: l => by
   rw [List.map_cons, nxt, qle, qbi]
   split
   ·exact qra l
   ·rfl
theorem f2 : ∀ (l : List Cr) (b : Cw), filt whtW g2 b (l.map (emb W)) = (around W (endW b) l).map (emb W)
 | [], _ => rfl
 | c :: l, b => by
   have hg : g2 b (emb W c) (nxt whtW (l.map (emb W))) = (wht W c && (endW b || qbi W l)) := by
    unfold g2
    rw [qra, qle]
   rw [List.map_cons, filt, hg, qle, around]
   cases hc : wht W c with
   | true =>
     simp only [Bool.true_and, if_true]
     rw [f2 l b]
     split <;> rfl
   | false =>
     simp only [Bool.false_and, Bool.false_eq_true, if_false]
     rw [f2 l (emb W c)]
     rfl
def qe3 (W : Int -> Int) (p : Bool) : List Cr -> List Cr
 | [] => []
 | c :: l => if soft W c && p then qe3 W true l else c :: qe3 W (soft W c) l
theorem f3 : ∀ (l : List Cr) (b : Cw), filt none1 g3 b (l.map (emb W)) = (qe3 W (softW b) l).map (emb W)
 | [], _ => rfl
 | c :: l, b => by
   rw [List.map_cons, filt, qe3]
   simp only [g3, qbs, none1, Bool.false_eq_true, if_false]
   rw [f3 l (emb W c), qbs]
   cases hc : soft W c <;> cases softW b <;> simp
theorem nxt3 : ∀ l : List Cr, hardW (nxt none1 ((qe3 W true l).map (emb W))) = qbc W l
 | [] => rfl
 | c :: l => by
   rw [qe3, qbc]
   cases hc : soft W c with
   | true =>
     simp only [Bool.true_and, if_true]
     exact nxt3 l
   | false =>
     simp only [Bool.false_and, Bool.false_eq_true, if_false, List.map_cons, nxt, none1]
     rw [qea, hc]
     simp
theorem f34 : ∀ (l : List Cr) (b : Bool) (p : Bool) (x : Cw), (p = false -> hardW x = b) -> filt none1 g4 x ((qe3 W p l).map (emb W)) = (several W b p l).map (emb W)
 | [], _, _, _, _ => rfl
 | c :: l, b, p, x, h => by
   rw [qe3, several]
   cases hc : soft W c with
   | true =>
     simp only [Bool.true_and, if_true]
     cases p with
     | true =>
       simp only [if_true, Bool.or_true]
       exact f34 l b true x (by simp)
     | false =>
       simp only [Bool.false_eq_true, if_false, List.map_cons, filt, g4, qbs, hc, nxt3, none1, h rfl, Bool.true_and, Bool.or_false]
       rw [f34 l b true (emb W c) (by simp)]
       split <;> rfl
   | false =>
     simp only [Bool.false_and, Bool.false_eq_true, if_false, List.map_cons, filt, g4, qbs, hc, none1]
     rw [f34 l (qb1 c) false (emb W c) (fun _ => by rw [qea, hc]; simp)]
theorem qvs (c : Cr) : t7 (t6 (t5 (emb W c))) = emb W (turn W c) := by
 unfold turn
 cases hs : soft W c with
 | true =>
   have h5 : t5 (emb W c) = emb W { c with r := 32 } := by unfold t5; rw [qbs, hs]; rfl
   have h6 : hardW (emb W { c with r := 32 }) = false := by
    have : qb1 { c with r := 32 } = false := by simp [qb1, is]
    rw [qea, this]; rfl
   have h7 : colW (emb W { c with r := 32 }) 9 = false := by
    have : is { c with r := 32 } 9 = false := by simp [is]
    rw [qcy, this]; rfl
   simp only [h5, t6, h6, t7, h7, Bool.false_eq_true, if_false, if_true]
 | false =>
   have h5 : t5 (emb W c) = emb W c := by unfold t5; rw [qbs, hs]; rfl
   rw [h5]
   cases he : qb1 c with
   | true =>
     have h6 : t6 (emb W c) = emb W { c with kind := 5, r := 10 } := by unfold t6; rw [qea, hs, he]; rfl
     have h7 : colW (emb W { c with kind := 5, r := 10 }) 9 = false := by
      have : is { c with kind := 5, r := 10 } 9 = false := by simp [is]
      rw [qcy, this]; rfl
     simp only [h6, t7, h7, Bool.false_eq_true, if_false, if_true]
   | false =>
     have h6 : t6 (emb W c) = emb W c := by unfold t6; rw [qea, hs, he]; rfl
     rw [h6]
     unfold t7
     rw [qcy]
     simp only [Bool.false_eq_true, if_false]
     cases h9 : is c 9 with
     | true =>
       cases hcl : qcz (W c.node) with
       | true =>
         have hw : wht W c = true := by unfold wht; rw [hcl, h9]; simp
         simp only [hw, Bool.and_self, if_true]
         rfl
       | false =>
         have hw : wht W c = false := by unfold wht; rw [hcl]; simp
         simp [hw]
     | false =>
       simp only [Bool.false_and, Bool.false_eq_true, if_false]
       split
       ·rename_i hw
        have h32 : is c 32 = true := by
         unfold wht at hw
         rw [h9] at hw
         simp at hw
         exact hw.2
        have : c.r = 32 := by simp [is] at h32; exact h32.2
        rw [<- this]
       ·rfl
theorem qmu (hD : D 10 = false /\ D 13 = false) (c : Cr) : wideW D (emb W c) = wide D c := by
 unfold wideW wide emb
 cases he : qb1 c with
 | false => simp
 | true =>
   have : c.r = 10 \/ c.r = 13 := by
    simp only [qb1, is, Bool.or_eq_true, Bool.and_eq_true, decide_eq_true_eq] at he
    rcases he with h | h
    ·exact .inl h.2
    ·exact .inr h.2
   rcases this with h | h <;> simp [h, hD.1, hD.2]
theorem f5 (hD : D 10 = false /\ D 13 = false) : ∀ (l : List Cr) (p : Option Cr), (filt none1 (g5 D) (match p with | none => nb | some a => emb W a) (l.map (emb W))).map (t7 ∘ t6 ∘ t5) = (turned W D p l).map (emb W)
 | [], _ => rfl
 | c :: l, p => by
   have hg : g5 D (match p with | none => nb | some a => emb W a) (emb W c) (nxt none1 (l.map (emb W))) = (soft W c && goes D p l) := by
    unfold g5 goes
    rw [qmh]
    cases p with
    | none =>
      cases l with
      | nil => simp [qzo, qk4, pIs, qz5, qn7, qjz]
      | cons a l => simp [qzo, qk4, pIs, qz5, qn7, qjz, qka, qbs]
    | some y =>
      cases l with
      | nil => simp [qzo, qk4, pIs, qz5, qn7, qjz, qka, qbs, qmu hD]
      | cons a l => simp [pIs, qz5, qn7, qjz, qka, qbs, qmu hD]
   rw [List.map_cons, filt, hg, turned]
   simp only [none1, Bool.false_eq_true, if_false]
   have ih := f5 hD l (some c)
   split
   ·exact ih
   ·rw [List.map_cons, List.map_cons]
    refine congr (congrArg _ ?_) ih
    exact qvs c
def qs5 (W : Int -> Int) (l : List Cr) : Prop := ∀ c ∈ l, (is c 9 && qcz (W c.node)) = false
theorem qoa (c : Cr) : (is (turn W c) 9 && qcz (W (turn W c).node)) = false := by
 rw [(qco c).1]
 unfold turn
 split
 ·simp [is]
 ·split
  ·simp [is]
  ·split
   ·simp [is]
   ·rename_i h
    unfold wht at h
    cases h9 : is c 9 <;> cases hcl : qcz (W c.node) <;> simp_all
theorem qby : ∀ (l : List Cr) (p : Option Cr), qs5 W (turned W D p l)
 | [], _ => by intro c hc; cases hc
 | c :: l, p => by
   rw [turned]
   split
   ·exact qby l _
   ·intro d hd
    rcases List.mem_cons.1 hd with rfl | hd
    ·exact qoa c
    ·exact qby l _ d hd
theorem qju {c : Cr} (h : (is c 9 && qcz (W c.node)) = false) : wht W c = (is c 32 && qcz (W c.node)) := by
 unfold wht
 cases h9 : is c 9 <;> cases hcl : qcz (W c.node) <;> cases h32 : is c 32 <;> simp_all
theorem f8 : ∀ (l : List Cr) (b : Cw), qs5 W l -> filt none1 g8 b (l.map (emb W)) = (rows W (colW b 32) l).map (emb W)
 | [], _, _ => rfl
 | c :: l, b, hn => by
   have hc := hn c (List.mem_cons_self ..)
   have ih := f8 l (emb W c) (fun d hd => hn d (List.mem_cons_of_mem _ hd))
   rw [List.map_cons, filt, rows, qju hc]
   simp only [g8, qcy, none1, Bool.false_eq_true, if_false]
   rw [ih, qcy]
   cases hh : (is c 32 && qcz (W c.node)) <;> cases colW b 32 <;> simp
theorem qel : ∀ (l : List Cr) (p : Bool), qs5 W l -> qs5 W (rows W p l)
 | [], _, _ => by intro c hc; cases hc
 | c :: l, p, hn => by
   have h1 := hn c (List.mem_cons_self ..)
   have h2 : qs5 W l := fun d hd => hn d (List.mem_cons_of_mem _ hd)
   rw [rows]
   split
   ·exact qel l _ h2
   ·intro d hd
    rcases List.mem_cons.1 hd with rfl | hd
    ·exact h1
    ·exact qel l _ h2 d hd
theorem f9 {c : Cr} (h : (is c 9 && qcz (W c.node)) = false) : t9 (emb W c) = emb W (kindOf W c) := by
 unfold t9 kindOf
 rw [qju h, qka, qka, qcy]
 cases h9 : is c 9 with
 | true =>
   have h32 : is c 32 = false := by
    cases h32 : is c 32 with
    | false => rfl
    | true => exact absurd (qxm h9 h32) (by decide)
   simp [h32, emb]
 | false =>
   cases h32 : is c 32 with
   | false => simp
   | true =>
     cases hcl : qcz (W c.node) with
     | true => simp [emb]
     | false =>
       simp only [Bool.true_and, Bool.false_eq_true, if_false, if_true]
       have e : (emb W c).w = W c.node := rfl
       rw [e]
       split <;> rfl
theorem nine (hD : D 10 = false /\ D 13 = false) (l : List Cr) :
 (filt none1 g8 nb (((((filt none1 (g5 D) nb (filt none1 g4 nb (filt none1 g3 nb (filt whtW g2 nb (filt none1 g1 nb (l.map (emb W))))))).map t5).map t6).map t7))).map t9 = (qb0 W D l).map (emb W) := by
 rw [f1, f2, f3, nb_end, qzn, f34 _ false false nb (fun _ => rfl)]
 have h5 := f5 (W := W) (D := D) hD (several W false false (around W false (pairs l))) none
 simp only [List.map_map]
 have e : (t7 ∘ t6) ∘ t5 = t7 ∘ t6 ∘ t5 := rfl
 have e2 : t7 ∘ (t6 ∘ t5) = t7 ∘ t6 ∘ t5 := rfl
 rw [show ((filt none1 (g5 D) nb ((several W false false (around W false (pairs l))).map (emb W))).map (t7 ∘ t6 ∘ t5)) = _ from h5]
 rw [f8 _ _ (qby _ _), nb_col]
 have hN := qel (W := W) (turned W D none (several W false false (around W false (pairs l)))) false (qby _ _)
 unfold qb0 s6 s4 s3 s2
 simp only [List.map_map]
 exact List.map_congr_left fun c hc => f9 (hN c hc)
end
end Wh
end Go.Proofs.YtmceblkjbpbcoaaGreatDoor
