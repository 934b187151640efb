/- Contract of math/bits' Len64: the number of bits. Condition: the argument is a uint64. -/
import Derived.Test.YtddihpiheopleaaRows
import Derived.Lib.Strings
import Derived.Lib.Slices
import Derived.Lib.Small
import Derived.Lib.Walk
import Derived.Lib.BitFns
namespace Go.Proofs.Ytddihpiheopleaa.Fo

theorem len_low (y : Int) (hy0 : 0 ≤ y) (hy : y ≤ 255) (L : Int) (hL : L = Lib.len8 y) : 0 ≤ L ∧ L ≤ 8 ∧ L = (Lib.bitLen y.toNat : Nat) := by
  have h := Lib.bitLen_le8' y hy0 hy
  rw [hL, Lib.len8_of y hy0 hy]
  omega

theorem len_top (k x : Nat) (hk : k ≤ 56) (h : 2 ^ k ≤ x) (h2 : x < 18446744073709551616) (y : Int) (hy0 : 0 ≤ y) (hy : y ≤ 255) (e : y.toNat = x / 2 ^ k) (c : Int) (hc : c = k) :
    (c + ((Lib.len8 y + 9223372036854775808) % 18446744073709551616 - 9223372036854775808) + 9223372036854775808) % 18446744073709551616 - 9223372036854775808 = (Lib.bitLen x : Nat) := by
  have s := Lib.bitLen_shift k x h h2
  obtain ⟨a, b, d⟩ := len_low y hy0 hy _ rfl
  rw [e] at d
  rw [s, hc]
  generalize Lib.len8 y = L at *
  omega

theorem len_end (x : Nat) (y : Int) (hy0 : 0 ≤ y) (hy : y ≤ 255) (e : y.toNat = x) :
    (Lib.len8 y + 9223372036854775808) % 18446744073709551616 - 9223372036854775808 = (Lib.bitLen x : Nat) := by
  obtain ⟨a, b, d⟩ := len_low y hy0 hy _ rfl
  rw [e] at d
  generalize Lib.len8 y = L at *
  omega

/-- what the number of bits says -/
theorem len_is (x : Nat) (h0 : 0 < x) (h : x < 18446744073709551616) : 1 ≤ Lib.bitLen x ∧ Lib.bitLen x ≤ 64 ∧ 2 ^ (Lib.bitLen x - 1) ≤ x ∧ x < 2 ^ Lib.bitLen x := by
  suffices H : ∀ n x : Nat, x ≤ n → 0 < x → x < 18446744073709551616 → 1 ≤ Lib.bitLen x ∧ 2 ^ (Lib.bitLen x - 1) ≤ x ∧ x < 2 ^ Lib.bitLen x by
    obtain ⟨a, b, c⟩ := H x x (Nat.le_refl _) h0 h
    exact ⟨a, Lib.bitLen_le x 64 (Nat.le_refl _) h, b, c⟩
  intro n
  induction n with
  | zero => intro x h1 h2; omega
  | succ n ih =>
    intro x h1 h2 h3
    have e := Lib.bitLen_half x (by omega) h3
    by_cases hx : x = 1
    · subst hx
      have : Lib.bitLen 1 = 1 := by decide +kernel
      rw [this]
      omega
    · obtain ⟨a, b, c⟩ := ih (x / 2) (by omega) (by omega) (by omega)
      rw [e]
      generalize Lib.bitLen (x / 2) = m at *
      obtain ⟨m, rfl⟩ : ∃ q, m = q + 1 := ⟨m - 1, by omega⟩
      have e1 : 1 + (m + 1) - 1 = m + 1 := by omega
      have e2 : m + 1 - 1 = m := by omega
      rw [e1]
      rw [e2] at b
      have e3 : 1 + (m + 1) = (m + 1) + 1 := by omega
      rw [e3]
      have p1 : 2 ^ (m + 1) = 2 ^ m * 2 := Nat.pow_succ _ _
      have p2 : 2 ^ (m + 1 + 1) = 2 ^ (m + 1) * 2 := Nat.pow_succ _ _
      omega
end Go.Proofs.Ytddihpiheopleaa.Fo
