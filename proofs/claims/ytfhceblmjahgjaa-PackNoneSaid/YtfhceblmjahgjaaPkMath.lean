/- Plain arithmetic, no program: the encodings of layer 3 over lists of bytes (natural numbers below 256): of numbers, integers, truths, texts and lists; how they are read; and what holds between them (P3.3, P3.4). -/
import Derived.KernelRfl
namespace Go.Proofs.Ytfhceblmjahgjaa.Pk

/-- a number's bytes, the greatest first, as few as there need be -/
def be (n : Nat) : List Nat := if n = 0 then [] else be (n / 256) ++ [n % 256]
termination_by n
decreasing_by omega

/-- the number that bytes are -/
def val (l : List Nat) : Nat := l.foldl (fun x b => 256 * x + b) 0

/-- the encoding of a number -/
def num (n : Nat) : List Nat := if n < 248 then [n] else (247 + (be n).length) :: be n

theorem val_snoc (l : List Nat) (b : Nat) : val (l ++ [b]) = 256 * val l + b := by simp [val]

theorem be_zero : be 0 = [] := by rw [be, if_pos rfl]
theorem be_pos (n : Nat) (h : n ≠ 0) : be n = be (n / 256) ++ [n % 256] := by rw [be, if_neg h]

theorem val_be (n : Nat) : val (be n) = n := by
  induction n using Nat.strongRecOn with
  | _ n ih =>
    by_cases h : n = 0
    · subst h; rw [be_zero]; rfl
    · rw [be_pos n h, val_snoc, ih (n / 256) (by omega)]
      omega

theorem be_lt (n : Nat) : ∀ b ∈ be n, b < 256 := by
  induction n using Nat.strongRecOn with
  | _ n ih =>
    by_cases h : n = 0
    · subst h; rw [be_zero]; simp
    · rw [be_pos n h]
      intro b hb
      rcases List.mem_append.1 hb with hb | hb
      · exact ih (n / 256) (by omega) b hb
      · simp at hb; omega

theorem be_len (k n : Nat) (h : n < 256 ^ k) : (be n).length ≤ k := by
  induction k generalizing n with
  | zero =>
    have : n = 0 := by simpa using h
    subst this
    simp [be_zero]
  | succ k ih =>
    by_cases h0 : n = 0
    · subst h0; simp [be_zero]
    · rw [be_pos n h0, List.length_append]
      have : n / 256 < 256 ^ k := by
        rw [Nat.pow_succ] at h
        exact Nat.div_lt_of_lt_mul (by omega)
      have := ih (n / 256) this
      simp
      omega

theorem be_len_pos (n : Nat) (h : n ≠ 0) : 1 ≤ (be n).length := by
  rw [be_pos n h]
  simp

theorem val_lt (l : List Nat) (h : ∀ b ∈ l, b < 256) : val l < 256 ^ l.length := by
  suffices H : ∀ m (l : List Nat), l.length = m → (∀ b ∈ l, b < 256) → val l < 256 ^ m from H _ l rfl h
  intro m
  induction m with
  | zero =>
    intro l hl _
    have : l = [] := List.length_eq_zero_iff.1 hl
    subst this
    simp [val]
  | succ m ih =>
    intro l hl hb
    have hne : l ≠ [] := by intro e; subst e; simp at hl
    obtain ⟨a, b, rfl⟩ : ∃ a b, l = a ++ [b] := ⟨l.dropLast, l.getLast hne, (List.dropLast_concat_getLast hne).symm⟩
    rw [val_snoc]
    have h1 := ih a (by simpa using hl) (fun x hx => hb x (by simp [hx]))
    have h2 := hb b (by simp)
    rw [Nat.pow_succ]
    omega

/-- how many bytes the encoding has that begins with c -/
def size (c : Nat) : Nat := if c < 248 then 1 else c - 246

/-- the number that is encoded at the beginning, and what is left -/
def take : List Nat → Option (Nat × List Nat)
  | [] => none
  | c :: r =>
    if (c :: r).length < size c then none
    else if num (if size c = 1 then c else val (((c :: r).take (size c)).drop 1)) = (c :: r).take (size c) then some (if size c = 1 then c else val (((c :: r).take (size c)).drop 1), (c :: r).drop (size c)) else none

theorem take_cons (c : Nat) (r : List Nat) : take (c :: r) = if (c :: r).length < size c then none
    else if num (if size c = 1 then c else val (((c :: r).take (size c)).drop 1)) = (c :: r).take (size c) then some (if size c = 1 then c else val (((c :: r).take (size c)).drop 1), (c :: r).drop (size c)) else none := rfl

theorem num_ne (n : Nat) : num n ≠ [] := by unfold num; split <;> simp

theorem num_lt (n : Nat) (h : n < 18446744073709551616) : ∀ b ∈ num n, b < 256 := by
  unfold num
  split
  · intro b hb; simp at hb; omega
  · intro b hb
    have hl := be_len 8 n (by simpa using h)
    rcases List.mem_cons.1 hb with hb | hb
    · omega
    · exact be_lt n b hb

theorem num_len (n : Nat) (h : n < 18446744073709551616) : 1 ≤ (num n).length ∧ (num n).length ≤ 9 := by
  unfold num
  split
  · simp
  · have hl := be_len 8 n (by simpa using h)
    simp
    omega

theorem num_shape (n : Nat) (h : n < 18446744073709551616) : ∃ c r, num n = c :: r ∧ size c = (num n).length ∧ (if size c = 1 then c else val r) = n := by
  unfold num
  split
  · rename_i h1
    refine ⟨n, [], rfl, ?_, ?_⟩
    · unfold size; rw [if_pos h1]; rfl
    · unfold size; rw [if_pos h1]; rfl
  · rename_i h1
    have hl := be_len 8 n (by simpa using h)
    have hp := be_len_pos n (by omega)
    have hs : size (247 + (be n).length) = (be n).length + 1 := by unfold size; rw [if_neg (by omega)]; omega
    refine ⟨_, be n, rfl, ?_, ?_⟩
    · rw [hs]; simp
    · rw [hs, if_neg (by omega), val_be]

theorem take_num (n : Nat) (h : n < 18446744073709551616) (t : List Nat) : take (num n ++ t) = some (n, t) := by
  obtain ⟨c, r, e, hs, hv⟩ := num_shape n h
  have e2 : num n ++ t = c :: (r ++ t) := by rw [e]; rfl
  have ht : (num n ++ t).take (size c) = num n := by rw [hs, List.take_left']; rfl
  have hd : (num n ++ t).drop (size c) = t := by rw [hs, List.drop_left']; rfl
  have hr : ((num n ++ t).take (size c)).drop 1 = r := by rw [ht, e]; rfl
  have hl : ¬ (num n ++ t).length < size c := by rw [hs, List.length_append]; omega
  rw [e2] at ht hd hr hl ⊢
  rw [take_cons, if_neg hl, hr, hv, ht, if_pos rfl, hd]

theorem take_sound (l : List Nat) (n : Nat) (t : List Nat) (h : take l = some (n, t)) : l = num n ++ t := by
  cases l with
  | nil => simp [take] at h
  | cons c r =>
    rw [take_cons] at h
    generalize (if size c = 1 then c else val (((c :: r).take (size c)).drop 1)) = v at h
    split at h
    · cases h
    · split at h
      · rename_i h1
        simp only [Option.some.injEq, Prod.mk.injEq] at h
        obtain ⟨h2, h3⟩ := h
        rw [h2] at h1
        rw [h1, ← h3, List.take_append_drop]
      · cases h

theorem take_lt (l : List Nat) (hl : ∀ b ∈ l, b < 256) (n : Nat) (t : List Nat) (h : take l = some (n, t)) : n < 18446744073709551616 := by
  cases l with
  | nil => simp [take] at h
  | cons c r =>
    have hc := hl c (by simp)
    rw [take_cons] at h
    generalize hv : (if size c = 1 then c else val (((c :: r).take (size c)).drop 1)) = v at h
    split at h
    · cases h
    · split at h
      · simp only [Option.some.injEq, Prod.mk.injEq] at h
        obtain ⟨h2, _⟩ := h
        rw [← h2, ← hv]
        split
        · omega
        · have hb : ∀ b ∈ ((c :: r).take (size c)).drop 1, b < 256 := fun b hb => hl b (List.mem_of_mem_take (List.mem_of_mem_drop hb))
          have hv := val_lt _ hb
          have hlen : (((c :: r).take (size c)).drop 1).length ≤ 8 := by
            rw [List.length_drop, List.length_take]
            have : size c ≤ 9 := by unfold size; split <;> omega
            omega
          have : 256 ^ (((c :: r).take (size c)).drop 1).length ≤ 256 ^ 8 := Nat.pow_le_pow_right (by omega) hlen
          have e8 : (256 : Nat) ^ 8 = 18446744073709551616 := by decide
          omega
      · cases h

/-! ### what is left of a reader: nothing for good, or bytes -/

abbrev Left := Option (List Nat)

/-- a number -/
def rNum : Left → Nat × Left
  | none => (0, none)
  | some l => match take l with
    | none => (0, none)
    | some (n, t) => (n, some t)

/-- an integer as a number, and back -/
def zig (z : Int) : Nat := if 0 ≤ z then (2 * z).toNat else (2 * (-(z + 1)) + 1).toNat
def zag (n : Nat) : Int := if n % 2 = 1 then -((n / 2 : Nat) : Int) - 1 else ((n / 2 : Nat) : Int)

theorem zag_zig (z : Int) : zag (zig z) = z := by
  unfold zag zig
  split <;> split <;> omega
theorem zig_zag (n : Nat) : zig (zag n) = n := by
  unfold zag zig
  split <;> split <;> omega
theorem zig_lt (z : Int) (h1 : -9223372036854775808 ≤ z) (h2 : z ≤ 9223372036854775807) : zig z < 18446744073709551616 := by
  unfold zig
  split <;> omega
theorem zag_bd (n : Nat) (h : n < 18446744073709551616) : -9223372036854775808 ≤ zag n ∧ zag n ≤ 9223372036854775807 := by
  unfold zag
  split <;> omega

def rInt (q : Left) : Int × Left := (zag (rNum q).1, (rNum q).2)
def rTruth (q : Left) : Bool × Left := if 1 < (rNum q).1 then (false, none) else ((rNum q).1 == 1, (rNum q).2)
def rText (q : Left) : List Nat × Left := match (rNum q).2 with
  | none => ([], none)
  | some t => if t.length < (rNum q).1 then ([], none) else (t.take (rNum q).1, some (t.drop (rNum q).1))

/-- so many things, one behind the other; it stops where one is missing -/
def rMany {α : Type} (f : Left → α × Left) : Nat → Left → List α × Left
  | 0, q => ([], q)
  | _ + 1, none => ([], none)
  | n + 1, some l => ((f (some l)).1 :: (rMany f n (f (some l)).2).1, (rMany f n (f (some l)).2).2)

def rList {α : Type} (f : Left → α × Left) (q : Left) : List α × Left := match (rMany f (rNum q).1 (rNum q).2).2 with
  | none => ([], none)
  | some t => ((rMany f (rNum q).1 (rNum q).2).1, some t)

/-- the encodings -/
def int (z : Int) : List Nat := num (zig z)
def truth (b : Bool) : List Nat := num (if b then 1 else 0)
def text (s : List Nat) : List Nat := num s.length ++ s
def list {α : Type} (e : α → List Nat) (l : List α) : List Nat := num l.length ++ l.flatMap e

/-- a way to write things and to read them: what is written is read; what is read is written so; who has nothing reads nothing -/
structure Way {α : Type} (ok : α → Prop) (e : α → List Nat) (f : Left → α × Left) (z : α) : Prop where
  back : ∀ x t, ok x → f (some (e x ++ t)) = (x, some t)
  same : ∀ l x t, (∀ b ∈ l, b < 256) → f (some l) = (x, some t) → l = e x ++ t ∧ ok x
  nil : f none = (z, none)
  bad : ∀ l, (f (some l)).2 = none → (f (some l)).1 = z
  ne : ∀ x, ok x → e x ≠ []

def OkN (n : Nat) : Prop := n < 18446744073709551616
def OkI (z : Int) : Prop := -9223372036854775808 ≤ z ∧ z ≤ 9223372036854775807
def OkS (s : List Nat) : Prop := s.length < 18446744073709551616 ∧ ∀ b ∈ s, b < 256
def OkL {α : Type} (ok : α → Prop) (l : List α) : Prop := l.length < 18446744073709551616 ∧ ∀ x ∈ l, ok x

theorem rNum_some (l : List Nat) (n : Nat) (t : List Nat) : rNum (some l) = (n, some t) ↔ take l = some (n, t) := by
  cases h : take l with
  | none => simp [rNum, h]
  | some p =>
    obtain ⟨a, b⟩ := p
    simp [rNum, h]

theorem wayNum : Way OkN num rNum 0 where
  back := fun n t h => (rNum_some _ _ _).2 (take_num n h t)
  same := fun l n t hl h => ⟨take_sound l n t ((rNum_some _ _ _).1 h), take_lt l hl n t ((rNum_some _ _ _).1 h)⟩
  nil := rfl
  bad := fun l h => by
    cases ht : take l with
    | none => simp [rNum, ht]
    | some p => simp [rNum, ht] at h
  ne := fun n _ => num_ne n

theorem wayInt : Way OkI int rInt 0 where
  back := fun z t h => by
    unfold rInt int
    rw [wayNum.back (zig z) t (zig_lt z h.1 h.2), zag_zig]
  same := fun l z t hl h => by
    unfold rInt at h
    simp only [Prod.mk.injEq] at h
    obtain ⟨h1, h2⟩ := h
    have := wayNum.same l (rNum (some l)).1 t hl (by rw [← h2])
    refine ⟨?_, ?_⟩
    · unfold int
      rw [← h1, zig_zag]
      exact this.1
    · rw [← h1]
      exact zag_bd _ this.2
  nil := rfl
  bad := fun l h => by
    unfold rInt at h ⊢
    simp only at h ⊢
    rw [wayNum.bad l h]
    rfl
  ne := fun z _ => num_ne _

theorem wayTruth : Way (fun _ => True) truth rTruth false where
  back := fun b t _ => by
    unfold rTruth truth
    rw [wayNum.back _ t (by cases b <;> simp [OkN])]
    cases b <;> simp
  same := fun l b t hl h => by
    unfold rTruth at h
    split at h
    · simp at h
    · rename_i h1
      simp only [Prod.mk.injEq] at h
      obtain ⟨h2, h3⟩ := h
      have := wayNum.same l (rNum (some l)).1 t hl (by rw [← h3])
      refine ⟨?_, trivial⟩
      unfold truth
      have e : (if b = true then 1 else 0) = (rNum (some l)).1 := by
        rw [← h2]
        by_cases h4 : (rNum (some l)).1 = 1
        · simp [h4]
        · simp [h4]; omega
      rw [e]
      exact this.1
  nil := rfl
  bad := fun l h => by
    unfold rTruth at h ⊢
    split
    · rfl
    · rename_i h1
      rw [if_neg h1] at h
      simp only at h ⊢
      rw [wayNum.bad l h]
      rfl
  ne := fun b _ => num_ne _

theorem wayText : Way OkS text rText [] where
  back := fun s t h => by
    unfold rText text
    rw [List.append_assoc, wayNum.back s.length (s ++ t) h.1]
    simp
  same := fun l s t hl h => by
    unfold rText at h
    cases hq : (rNum (some l)).2 with
    | none => rw [hq] at h; simp at h
    | some u =>
      rw [hq] at h
      simp only at h
      split at h
      · simp at h
      · rename_i h1
        simp only [Prod.mk.injEq, Option.some.injEq] at h
        obtain ⟨h2, h3⟩ := h
        have := wayNum.same l (rNum (some l)).1 u hl (by rw [← hq])
        have hlen : s.length = (rNum (some l)).1 := by rw [← h2, List.length_take]; omega
        refine ⟨?_, ?_, ?_⟩
        · unfold text
          rw [hlen, List.append_assoc, ← h2, ← h3, List.take_append_drop]
          exact this.1
        · rw [hlen]; exact this.2
        · intro b hb
          rw [← h2] at hb
          refine hl b ?_
          rw [this.1]
          exact List.mem_append.2 (.inr (List.mem_of_mem_take hb))
  nil := rfl
  bad := fun l h => by
    unfold rText at h ⊢
    cases hq : (rNum (some l)).2 with
    | none => rfl
    | some u =>
      rw [hq] at h
      simp only at h ⊢
      split
      · rfl
      · rename_i h1
        rw [if_neg h1] at h
        simp at h
  ne := fun s _ => by
    unfold text
    intro e
    exact num_ne _ (List.append_eq_nil_iff.1 e).1

theorem rMany_none {α : Type} (f : Left → α × Left) (n : Nat) : rMany f n none = ([], none) := by cases n <;> rfl

theorem many_back {α : Type} {ok : α → Prop} {e : α → List Nat} {f : Left → α × Left} {z : α} (W : Way ok e f z) : ∀ (l : List α) (t : List Nat), (∀ x ∈ l, ok x) → rMany f l.length (some (l.flatMap e ++ t)) = (l, some t)
  | [], t, _ => by simp [rMany]
  | x :: l, t, h => by
    have ih := many_back W l t (fun y hy => h y (by simp [hy]))
    have hx := W.back x (l.flatMap e ++ t) (h x (by simp))
    rw [List.length_cons, List.flatMap_cons, List.append_assoc, rMany, hx]
    simp only
    rw [ih]

theorem many_same {α : Type} {ok : α → Prop} {e : α → List Nat} {f : Left → α × Left} {z : α} (W : Way ok e f z) : ∀ (n : Nat) (l : List Nat) (xs : List α) (t : List Nat), (∀ b ∈ l, b < 256) → rMany f n (some l) = (xs, some t) → l = xs.flatMap e ++ t ∧ xs.length = n ∧ ∀ x ∈ xs, ok x
  | 0, l, xs, t, _, h => by
    simp only [rMany, Prod.mk.injEq, Option.some.injEq] at h
    obtain ⟨rfl, rfl⟩ := h
    simp
  | n + 1, l, xs, t, hl, h => by
    rw [rMany] at h
    simp only [Prod.mk.injEq] at h
    obtain ⟨h1, h2⟩ := h
    cases hq : (f (some l)).2 with
    | none =>
      rw [hq, rMany_none] at h2
      cases h2
    | some u =>
      rw [hq] at h1 h2
      have hs := W.same l (f (some l)).1 u hl (by rw [← hq])
      have hu : ∀ b ∈ u, b < 256 := fun b hb => hl b (by rw [hs.1]; exact List.mem_append.2 (.inr hb))
      have ih := many_same W n u (rMany f n (some u)).1 t hu (by rw [← h2])
      refine ⟨?_, ?_, ?_⟩
      · rw [← h1, List.flatMap_cons, List.append_assoc, ← ih.1]
        exact hs.1
      · rw [← h1, List.length_cons, ih.2.1]
      · rw [← h1]
        intro x hx
        rcases List.mem_cons.1 hx with hx | hx
        · rw [hx]; exact hs.2
        · exact ih.2.2 x hx

theorem wayList {α : Type} {ok : α → Prop} {e : α → List Nat} {f : Left → α × Left} {z : α} (W : Way ok e f z) : Way (OkL ok) (list e) (rList f) [] where
  back := fun l t h => by
    unfold rList list
    rw [List.append_assoc, wayNum.back l.length _ h.1]
    simp only
    rw [many_back W l t h.2]
  same := fun l xs t hl h => by
    unfold rList at h
    cases hm : (rMany f (rNum (some l)).1 (rNum (some l)).2).2 with
    | none => rw [hm] at h; simp at h
    | some v =>
      rw [hm] at h
      simp only [Prod.mk.injEq, Option.some.injEq] at h
      obtain ⟨h1, rfl⟩ := h
      cases hq : (rNum (some l)).2 with
      | none => rw [hq, rMany_none] at hm; cases hm
      | some u =>
        rw [hq] at h1 hm
        have hs := wayNum.same l (rNum (some l)).1 u hl (by rw [← hq])
        have hu : ∀ b ∈ u, b < 256 := fun b hb => hl b (by rw [hs.1]; exact List.mem_append.2 (.inr hb))
        have hw := many_same W (rNum (some l)).1 u (rMany f (rNum (some l)).1 (some u)).1 v hu (by rw [← hm])
        rw [h1] at hw
        refine ⟨?_, ?_, hw.2.2⟩
        · unfold list
          rw [hw.2.1, List.append_assoc, ← hw.1]
          exact hs.1
        · rw [hw.2.1]; exact hs.2
  nil := by
    unfold rList
    rw [wayNum.nil]
    rfl
  bad := fun l h => by
    unfold rList at h ⊢
    cases hm : (rMany f (rNum (some l)).1 (rNum (some l)).2).2 with
    | none => rfl
    | some v => rw [hm] at h; simp at h
  ne := fun l _ => by
    unfold list
    intro e
    exact num_ne _ (List.append_eq_nil_iff.1 e).1

/-- no encoding stands at the beginning of another one -/
theorem Way.apart {α : Type} {ok : α → Prop} {e : α → List Nat} {f : Left → α × Left} {z : α} (W : Way ok e f z) {x y : α} (hx : ok x) (hy : ok y) (t : List Nat) (h : e y = e x ++ t) : x = y ∧ t = [] := by
  have h1 := W.back x t hx
  have h2 := W.back y [] hy
  rw [List.append_nil, h, h1] at h2
  simp at h2
  exact h2

/-- bytes whose last one is missing have less -/
theorem Way.short {α : Type} {ok : α → Prop} {e : α → List Nat} {f : Left → α × Left} {z : α} (W : Way ok e f z) {x : α} (hx : ok x) (hb : ∀ b ∈ e x, b < 256) : (f (some (e x).dropLast)).2 = none := by
  cases hq : (f (some (e x).dropLast)).2 with
  | none => rfl
  | some t =>
    exfalso
    have hs := W.same (e x).dropLast (f (some (e x).dropLast)).1 t (fun b hb2 => hb b (List.dropLast_subset _ hb2)) (by rw [← hq])
    have hne := W.ne x hx
    have he : e x = e (f (some (e x).dropLast)).1 ++ (t ++ [(e x).getLast hne]) := by
      rw [← List.append_assoc, ← hs.1, List.dropLast_concat_getLast hne]
    have := (W.apart hs.2 hx _ he).2
    simp at this
end Go.Proofs.Ytfhceblmjahgjaa.Pk
