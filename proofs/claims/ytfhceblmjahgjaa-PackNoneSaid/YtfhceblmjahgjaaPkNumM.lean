/- Plain arithmetic, no program: how a number is read, byte by byte. -/
import Derived.Test.YtfhceblmjahgjaaPkMath
namespace Go.Proofs.Ytfhceblmjahgjaa.Pk

theorem val_inj : ∀ (n : Nat) (a b : List Nat), a.length = n → b.length = n → (∀ x ∈ a, x < 256) → (∀ x ∈ b, x < 256) → val a = val b → a = b := by
  intro n
  induction n with
  | zero =>
    intro a b ha hb _ _ _
    rw [List.length_eq_zero_iff.1 ha, List.length_eq_zero_iff.1 hb]
  | succ n ih =>
    intro a b ha hb ha2 hb2 h
    have hna : a ≠ [] := by intro e; subst e; simp at ha
    have hnb : b ≠ [] := by intro e; subst e; simp at hb
    obtain ⟨a1, x, rfl⟩ : ∃ a1 x, a = a1 ++ [x] := ⟨a.dropLast, a.getLast hna, (List.dropLast_concat_getLast hna).symm⟩
    obtain ⟨b1, y, rfl⟩ : ∃ b1 y, b = b1 ++ [y] := ⟨b.dropLast, b.getLast hnb, (List.dropLast_concat_getLast hnb).symm⟩
    rw [val_snoc, val_snoc] at h
    have hx := ha2 x (by simp)
    have hy := hb2 y (by simp)
    have e1 : val a1 = val b1 := by omega
    have e2 : x = y := by omega
    rw [ih a1 b1 (by simpa using ha) (by simpa using hb) (fun z hz => ha2 z (by simp [hz])) (fun z hz => hb2 z (by simp [hz])) e1, e2]

/-- how many bytes follow the first one -/
def fol (n : Nat) : Nat := if n < 248 then 0 else (be n).length

/-- what 'number' answers: the number, and how long its encoding is (0: there is none) -/
def numOf (l : List Nat) : Nat × Nat := match take l with
  | none => (0, 0)
  | some (n, t) => (n, l.length - t.length)

theorem numOf_nil : numOf [] = (0, 0) := rfl
theorem numOf_low (c : Nat) (r : List Nat) (h : c < 248) : numOf (c :: r) = (c, 1) := by
  have hs : size c = 1 := by unfold size; rw [if_pos h]
  have hn : num c = [c] := by unfold num; rw [if_pos h]
  have ht : take (c :: r) = some (c, r) := by
    rw [take_cons, hs, if_neg (by simp), if_pos rfl, hn]
    simp
  unfold numOf
  rw [ht]
  simp
theorem numOf_short (c : Nat) (r : List Nat) (h : 248 ≤ c) (hl : r.length < c - 247) : numOf (c :: r) = (0, 0) := by
  have hs : size c = c - 246 := by unfold size; rw [if_neg (by omega)]
  have ht : take (c :: r) = none := by
    rw [take_cons, hs, if_pos (by simp; omega)]
  unfold numOf
  rw [ht]
theorem num_fol (m : Nat) (b : List Nat) (hm : b.length = m) (h1 : 1 ≤ m) (hb : ∀ x ∈ b, x < 256) : num (val b) = (247 + m) :: b ↔ fol (val b) = m := by
  constructor
  · intro h
    unfold num at h
    split at h
    · rw [List.cons.injEq] at h
      rw [← h.2] at hm
      simp at hm
      omega
    · rename_i h2
      rw [List.cons.injEq] at h
      unfold fol
      rw [if_neg h2]
      omega
  · intro h
    unfold fol at h
    split at h
    · omega
    · rename_i h2
      unfold num
      rw [if_neg h2, h, val_inj m (be (val b)) b h hm (be_lt _) hb (val_be _)]
theorem numOf_high (m : Nat) (b t : List Nat) (hm : b.length = m) (h1 : 1 ≤ m) (hb : ∀ x ∈ b, x < 256) :
    numOf ((247 + m) :: (b ++ t)) = if fol (val b) = m then (val b, 1 + m) else (0, 0) := by
  have hs : size (247 + m) = m + 1 := by unfold size; rw [if_neg (by omega)]; omega
  have e1 : ((247 + m) :: (b ++ t)).take (m + 1) = (247 + m) :: b := by
    rw [List.take_succ_cons, ← hm, List.take_left' rfl]
  have e2 : ((247 + m) :: (b ++ t)).drop (m + 1) = t := by
    rw [List.drop_succ_cons, ← hm, List.drop_left' rfl]
  have ht : take ((247 + m) :: (b ++ t)) = if fol (val b) = m then some (val b, t) else none := by
    have h3 : ¬ (m + 1 = 1) := by omega
    have h4 : ¬ ((247 + m) :: (b ++ t)).length < m + 1 := by simp; omega
    rw [take_cons, hs, if_neg h4, e1, e2]
    simp only [if_neg h3, List.drop_succ_cons, List.drop_zero, num_fol m b hm h1 hb]
  unfold numOf
  rw [ht]
  by_cases h : fol (val b) = m
  · rw [if_pos h, if_pos h]
    simp
    omega
  · rw [if_neg h, if_neg h]

theorem numOf_lt (l : List Nat) (hl : ∀ b ∈ l, b < 256) : (numOf l).1 < 18446744073709551616 ∧ (numOf l).2 ≤ l.length := by
  unfold numOf
  cases h : take l with
  | none => simp
  | some x =>
    obtain ⟨n, t⟩ := x
    exact ⟨take_lt l hl n t h, by simp⟩

/-- the reader's number, by 'number' -/
theorem rNum_numOf (l : List Nat) : rNum (some l) = if (numOf l).2 = 0 then (0, none) else ((numOf l).1, some (l.drop (numOf l).2)) := by
  cases h : take l with
  | none =>
    have e1 : rNum (some l) = (0, none) := by unfold rNum; simp [h]
    have e2 : numOf l = (0, 0) := by unfold numOf; simp [h]
    rw [e1, e2]
    rfl
  | some x =>
    obtain ⟨n, t⟩ := x
    have hs := take_sound l n t h
    have hne := num_ne n
    have hp : 0 < (num n).length := List.length_pos_iff.2 hne
    have e : l.length - t.length = (num n).length := by rw [hs, List.length_append]; omega
    have e1 : rNum (some l) = (n, some t) := by unfold rNum; simp [h]
    have e2 : numOf l = (n, (num n).length) := by unfold numOf; simp [h, e]
    have e3 : l.drop (num n).length = t := by
      conv => lhs; rw [hs]
      exact List.drop_left' rfl
    rw [e1, e2]
    simp only
    rw [if_neg (by omega), e3]
end Go.Proofs.Ytfhceblmjahgjaa.Pk
