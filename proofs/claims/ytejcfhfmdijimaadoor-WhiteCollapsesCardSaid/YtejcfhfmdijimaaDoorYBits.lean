/- Facts on the bits of 16-bit numbers, as a walk spells them; merged declarations' bits. No walk. -/
import Derived.Test.YtejcfhfmdijimaaDoorYMath
import Derived.Laws.BitsAllLaws
namespace Go.Proofs.YtejcfhfmdijimaaDoor
open Go.ChangeShapes Go.WideShapes Go.ChangeAt Go.RowKit

theorem and_pow_yes (n k : Nat) (h : n.testBit k = true) : n &&& 2 ^ k = 2 ^ k := by
  apply Nat.eq_of_testBit_eq
  intro i
  rw [Nat.testBit_and, Nat.testBit_two_pow]
  by_cases e : k = i
  · subst e; simp [h]
  · simp [e]
theorem and_pow_no (n k : Nat) (h : n.testBit k = false) : n &&& 2 ^ k = 0 := by
  apply Nat.eq_of_testBit_eq
  intro i
  rw [Nat.testBit_and, Nat.testBit_two_pow]
  by_cases e : k = i
  · subst e; simp [h]
  · simp [e]
theorem bit_yes (n k p : Nat) (hn : n < 65536) (h : n.testBit k = true) (hp : 2 ^ k = p) (hq : p < 65536) : bits .and .u16 (n : Int) (p : Int) = (p : Int) := by
  rw [u16_and_nat n p hn hq, ← hp, and_pow_yes n k h]
theorem bit_no (n k p : Nat) (hn : n < 65536) (h : n.testBit k = false) (hp : 2 ^ k = p) (hq : p < 65536) : bits .and .u16 (n : Int) (p : Int) = 0 := by
  rw [u16_and_nat n p hn hq, ← hp, and_pow_no n k h]
  rfl
theorem shr_yes (n k p : Nat) (hn : n < 65536) (h : n.testBit k = true) (hp : 2 ^ k = p) : bits .and .u16 ((n : Int) / (p : Int)) 1 = 1 := by
  have hlt : n / p < 65536 := Nat.lt_of_le_of_lt (Nat.div_le_self _ _) hn
  have e := u16_and_nat (n / p) 1 hlt (by omega)
  rw [Nat.testBit_eq_decide_div_mod_eq, hp] at h
  have h2 := of_decide_eq_true h
  rw [Nat.and_one_is_mod, h2] at e
  rw [← Int.natCast_ediv]
  exact e
theorem shr_no (n k p : Nat) (hn : n < 65536) (h : n.testBit k = false) (hp : 2 ^ k = p) : bits .and .u16 ((n : Int) / (p : Int)) 1 = 0 := by
  have hlt : n / p < 65536 := Nat.lt_of_le_of_lt (Nat.div_le_self _ _) hn
  have e := u16_and_nat (n / p) 1 hlt (by omega)
  rw [Nat.testBit_eq_decide_div_mod_eq, hp] at h
  have h2 := of_decide_eq_false h
  rw [Nat.and_one_is_mod, show n / p % 2 = 0 by omega] at e
  rw [← Int.natCast_ediv]
  exact e
theorem high_zero (n : Nat) (hn : n < 65536) : n &&& 65280 = 0 ↔ n ≤ 255 := by
  have e : (n &&& 65280) >>> 8 = n / 256 := by
    rw [Nat.shiftRight_and_distrib, Nat.shiftRight_eq_div_pow, show (65280 : Nat) >>> 8 = 2 ^ 8 - 1 from rfl, Nat.and_two_pow_sub_one_eq_mod]
    omega
  constructor
  · intro h
    rw [h] at e
    simp at e
    omega
  · intro h
    apply Nat.eq_of_testBit_eq
    intro i
    rw [Nat.testBit_and, Nat.zero_testBit]
    by_cases hi : i < 8
    · have h2 : (65280 : Nat).testBit i = false := by
        rw [show (65280 : Nat) = 255 <<< 8 from rfl, Nat.testBit_shiftLeft]
        have h8 : ¬ i ≥ 8 := by omega
        rw [decide_eq_false h8]
        rfl
      simp [h2]
    · have h2 : n.testBit i = false := Nat.testBit_lt_two_pow (Nat.lt_of_lt_of_le (show n < 2 ^ 8 by omega) (Nat.pow_le_pow_right (by omega) (by omega)))
      simp [h2]
theorem not_yes (n : Nat) (hn : n ≤ 255) : bits .andNot .u16 (n : Int) 255 = 0 := by
  have e := u16_andNot_nat n 255 (by omega) (by omega)
  rw [show 65535 - 255 = 65280 from rfl, (high_zero n (by omega)).2 hn] at e
  exact e
theorem not_no (n : Nat) (hn : n < 65536) (h : ¬ n ≤ 255) : (bits .andNot .u16 (n : Int) 255 != 0) = true := by
  have e := u16_andNot_nat n 255 (by omega) (by omega)
  rw [show 65535 - 255 = 65280 from rfl] at e
  have e2 : bits .andNot .u16 (n : Int) 255 = ((n &&& 65280 : Nat) : Int) := e
  rw [e2]
  have h2 : ¬ n &&& 65280 = 0 := fun h3 => h ((high_zero n hn).1 h3)
  simp
  omega

/-! ### the bits of what two declarations say -/
theorem mod_step_yes (x k : Nat) (h : x.testBit k = true) : x % 2 ^ k ||| 2 ^ k = x % 2 ^ (k + 1) := by
  apply Nat.eq_of_testBit_eq
  intro i
  rw [Nat.testBit_or, Nat.testBit_mod_two_pow, Nat.testBit_mod_two_pow, Nat.testBit_two_pow]
  by_cases e : k = i
  · subst e; simp [h]
  · by_cases hi : i < k
    · have : i < k + 1 := by omega
      simp [hi, this, e]
    · have : ¬ i < k + 1 := by omega
      simp [hi, this, e]
theorem mod_step_no (x k : Nat) (h : x.testBit k = false) : x % 2 ^ k = x % 2 ^ (k + 1) := by
  apply Nat.eq_of_testBit_eq
  intro i
  rw [Nat.testBit_mod_two_pow, Nat.testBit_mod_two_pow]
  by_cases e : k = i
  · subst e; simp [h]
  · by_cases hi : i < k
    · have : i < k + 1 := by omega
      simp [hi, this]
    · have : ¬ i < k + 1 := by omega
      simp [hi, this]
theorem or_lt (a b : Nat) (ha : a ≤ 255) (hb : b ≤ 255) : a ||| b ≤ 255 := by
  have := Nat.or_lt_two_pow (x := a) (y := b) (n := 8) (by omega) (by omega)
  omega
theorem or_lt16 (a b : Nat) (ha : a < 65536) (hb : b < 65536) : a ||| b < 65536 := Nat.or_lt_two_pow (n := 16) ha hb
end Go.Proofs.YtejcfhfmdijimaaDoor
