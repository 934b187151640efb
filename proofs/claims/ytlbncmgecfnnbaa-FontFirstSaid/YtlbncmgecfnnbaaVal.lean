/- Plain arithmetic, no program: lists of binary digits, lowest first, and the number that they say. -/
import Derived.KernelRfl
namespace Go.Proofs.Ytlbncmgecfnnbaa.Digits

/-- the number that digits say, the lowest first -/
def val : List Nat → Nat
  | [] => 0
  | x :: xs => x + 2 * val xs

theorem val_zero (n : Nat) : val (List.replicate n 0) = 0 := by
  induction n with
  | zero => rfl
  | succ n ih => rw [List.replicate_succ, val, ih]

theorem val_set : ∀ (l : List Nat) (j x : Nat), j < l.length → val (l.set j x) + l.getD j 0 * 2 ^ j = val l + x * 2 ^ j
  | [], j, x, h => by simp at h
  | y :: ys, 0, x, _ => by simp [val]; omega
  | y :: ys, j + 1, x, h => by
    have ih := val_set ys j x (by simpa using h)
    simp only [List.set_cons_succ, val, List.getD_cons_succ, Nat.pow_succ]
    have e1 : ys.getD j 0 * (2 ^ j * 2) = 2 * (ys.getD j 0 * 2 ^ j) := by rw [← Nat.mul_assoc, Nat.mul_comm]
    have e2 : x * (2 ^ j * 2) = 2 * (x * 2 ^ j) := by rw [← Nat.mul_assoc, Nat.mul_comm]
    omega

theorem val_drop (l : List Nat) (i : Nat) (h : i < l.length) : val (l.drop i) = l.getD i 0 + 2 * val (l.drop (i + 1)) := by
  rw [List.drop_eq_getElem_cons h, val]
  simp [List.getD, h]

theorem val_lt : ∀ (l : List Nat), (∀ x ∈ l, x < 2) → val l < 2 ^ l.length
  | [], _ => by simp [val]
  | x :: xs, h => by
    have h1 := h x (by simp)
    have h2 := val_lt xs (fun y hy => h y (by simp [hy]))
    simp only [val, List.length_cons, Nat.pow_succ]
    omega

theorem drop_le : ∀ (l : List Nat) (j : Nat), 2 ^ j * val (l.drop j) ≤ val l
  | [], j => by simp [val]
  | x :: xs, 0 => by simp
  | x :: xs, j + 1 => by
    have ih := drop_le xs j
    simp only [List.drop_succ_cons, val, Nat.pow_succ]
    have e : 2 ^ j * 2 * val (xs.drop j) = 2 * (2 ^ j * val (xs.drop j)) := by rw [Nat.mul_comm (2 ^ j) 2, Nat.mul_assoc]
    omega

theorem mod_step (b k : Nat) : b % 2 ^ (k + 1) = b % 2 ^ k + b / 2 ^ k % 2 * 2 ^ k := by
  rw [Nat.pow_succ, Nat.mod_mul, Nat.mul_comm]

/-- one round of the adding: digit p of l takes n % 2, n / 2 is carried -/
theorem add_round (l : List Nat) (V b i k c : Nat) (hp : k + i < l.length) (h : val l + c * 2 ^ (k + i) = V + b % 2 ^ k * 2 ^ i) :
    val (l.set (k + i) ((l.getD (k + i) 0 + c + b / 2 ^ k % 2) % 2)) + (l.getD (k + i) 0 + c + b / 2 ^ k % 2) / 2 * 2 ^ (k + 1 + i) = V + b % 2 ^ (k + 1) * 2 ^ i := by
  have hs := val_set l (k + i) ((l.getD (k + i) 0 + c + b / 2 ^ k % 2) % 2) hp
  rw [mod_step, Nat.add_mul, Nat.mul_assoc, ← Nat.pow_add]
  have e : 2 ^ (k + 1 + i) = 2 ^ (k + i) * 2 := by rw [show k + 1 + i = k + i + 1 by omega, Nat.pow_succ]
  rw [e]
  generalize l.getD (k + i) 0 = d at *
  generalize b / 2 ^ k % 2 = t at *
  generalize 2 ^ (k + i) = P at *
  generalize val (l.set (k + i) ((d + c + t) % 2)) = X at *
  have hn : (d + c + t) % 2 * P + (d + c + t) / 2 * (P * 2) = d * P + c * P + t * P := by
    rw [Nat.mul_comm P 2, ← Nat.mul_assoc, ← Nat.add_mul, ← Nat.add_mul, ← Nat.add_mul]
    congr 1
    omega
  omega

/-- at the end nothing is carried -/
theorem add_end (l : List Nat) (V b i c : Nat) (hi : i ≤ 64) (hb : b < 2 ^ 64) (hV : V < 2 ^ 128) (h : val l + c * 2 ^ (132 - i + i) = V + b % 2 ^ (132 - i) * 2 ^ i) : val l = V + b * 2 ^ i := by
  have e : b % 2 ^ (132 - i) = b := Nat.mod_eq_of_lt (Nat.lt_of_lt_of_le hb (Nat.pow_le_pow_right (by omega) (by omega)))
  rw [e, show 132 - i + i = 132 by omega] at h
  have h1 : b * 2 ^ i < 2 ^ 64 * 2 ^ 64 := Nat.lt_of_lt_of_le (Nat.mul_lt_mul_of_pos_right hb (Nat.two_pow_pos i)) (Nat.mul_le_mul_left _ (Nat.pow_le_pow_right (by omega) hi))
  rcases Nat.eq_zero_or_pos c with h0 | h0
  · subst h0; omega
  · exfalso
    have h2 : 1 * 2 ^ 132 ≤ c * 2 ^ 132 := Nat.mul_le_mul_right _ h0
    omega

theorem outer_step (a b i V : Nat) (hV : V = a % 2 ^ i * b) (h : a / 2 ^ i % 2 = 1) : V + b * 2 ^ i = a % 2 ^ (i + 1) * b := by
  rw [mod_step, h, Nat.add_mul, ← hV, Nat.one_mul, Nat.mul_comm b]

theorem outer_skip (a b i V : Nat) (hV : V = a % 2 ^ i * b) (h : a / 2 ^ i % 2 = 0) : V = a % 2 ^ (i + 1) * b := by
  rw [mod_step, h, Nat.zero_mul, Nat.add_zero, hV]

theorem part_lt (a b i : Nat) (hi : i ≤ 64) (hb : b < 2 ^ 64) : a % 2 ^ i * b < 2 ^ 128 := by
  have h1 : a % 2 ^ i < 2 ^ 64 := Nat.lt_of_lt_of_le (Nat.mod_lt _ (Nat.two_pow_pos i)) (Nat.pow_le_pow_right (by omega) hi)
  have h2 : a % 2 ^ i * b ≤ (2 ^ 64 - 1) * (2 ^ 64 - 1) := Nat.mul_le_mul (by omega) (by omega)
  omega

/-- one round of the dividing -/
theorem div_round (m x by_ : Nat) (hb : 0 < by_) (hx : x < 2) :
    (x + 2 * m) / by_ = 2 * (m / by_) + (if by_ ≤ 2 * (m % by_) + x then 1 else 0) ∧ (x + 2 * m) % by_ = (if by_ ≤ 2 * (m % by_) + x then 2 * (m % by_) + x - by_ else 2 * (m % by_) + x) := by
  have hd := Nat.div_add_mod m by_
  have hm := Nat.mod_lt m hb
  generalize m / by_ = q at *
  generalize m % by_ = r at *
  have e : x + 2 * m = 2 * r + x + by_ * (2 * q) := by
    rw [← hd, Nat.mul_left_comm by_ 2 q, Nat.mul_add]; omega
  rw [e, Nat.add_mul_div_left _ _ hb, Nat.add_mul_mod_self_left]
  split
  · have e2 : 2 * r + x = (2 * r + x - by_) + by_ * 1 := by omega
    constructor
    · rw [e2, Nat.add_mul_div_left _ _ hb, Nat.div_eq_of_lt (by omega)]; omega
    · rw [e2, Nat.add_mul_mod_self_left, Nat.mod_eq_of_lt (by omega)]; omega
  · constructor
    · rw [Nat.div_eq_of_lt (by omega)]; omega
    · rw [Nat.mod_eq_of_lt (by omega)]
end Go.Proofs.Ytlbncmgecfnnbaa.Digits
