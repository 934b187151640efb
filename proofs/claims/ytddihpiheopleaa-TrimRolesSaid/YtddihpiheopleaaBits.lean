/- Contracts of math/bits' Mul64, LeadingZeros64 and Div64: the product in two words; 64 less the number of bits; quotient and rest of two words by one. Conditions: the arguments are uint64; of Div64: the divisor is above the upper word, and below 2^63. -/
import Derived.Test.YtddihpiheopleaaUnitA
import Derived.Test.YtddihpiheopleaaLen
import Derived.Test.YtddihpiheopleaaMath
import Derived.Lib.Mul64
import Derived.Deep.QuietTactic
import Derived.BigQuiet
import Derived.Deep.DeepCutAuto
import Derived.Deep.CutBlock
import Derived.Deep.LoopGhost
namespace Go.Proofs.Ytddihpiheopleaa.Fo
open Go.ChangeShapes Go.WideShapes Go.ChangeAt Go.RowKit

theorem and32 (a : Nat) (ha : a < 18446744073709551616) : bits .and .u64 (a : Int) 4294967295 = ((a % 4294967296 : Nat) : Int) := by
  have h := bits_and_u64_nat a 4294967295 ha (by omega)
  rw [show a &&& 4294967295 = a % 4294967296 from Nat.and_two_pow_sub_one_eq_mod a 32] at h
  exact h
theorem div32 (a : Nat) : (a : Int) / 4294967296 = ((a / 4294967296 : Nat) : Int) := by omega
theorem u64in (a : Nat) (ha : a < 18446744073709551616) : IntKind.u64.wrap (a : Int) = (a : Int) := by rw [IntKind.wrap_u64]; omega
theorem u64mod (a : Nat) : IntKind.u64.wrap (a : Int) = ((a % 18446744073709551616 : Nat) : Int) := by rw [IntKind.wrap_u64]; omega

theorem u64cast (y s : Nat) : (y : Int) * 2 ^ s = ((y * 2 ^ s : Nat) : Int) := by rw [Int.natCast_mul, Int.natCast_pow]; rfl
theorem u64shr (y s : Nat) : (y : Int) / 2 ^ s = ((y / 2 ^ s : Nat) : Int) := by rw [Int.natCast_ediv, Int.natCast_pow]; rfl

theorem un_wrap (u t v : Nat) (hv : 0 < v) (hv2 : v < 18446744073709551616) :
    IntKind.u64.wrap (IntKind.u64.wrap (IntKind.u64.wrap ((u : Int) * 4294967296) + t) - IntKind.u64.wrap ((((u * 4294967296 + t) / v : Nat) : Int) * v)) = (((u * 4294967296 + t) % v : Nat) : Int) := by
  have h := Nat.div_add_mod (u * 4294967296 + t) v
  have hl := Nat.mod_lt (u * 4294967296 + t) hv
  rw [← Int.natCast_mul, Nat.mul_comm _ v]
  generalize v * ((u * 4294967296 + t) / v) = p at *
  generalize (u * 4294967296 + t) % v = m at *
  simp only [IntKind.wrap_u64]
  omega

theorem digits (y1 y0 v u t : Nat) (hy1 : 0 < y1) (_hy2 : y1 < 4294967296) (hy0 : y0 < 4294967296) (hv : v = y1 * 4294967296 + y0) (hu : u < v) (hv2 : v < 18446744073709551616) (ht : t < 4294967296) :
    ∃ q p r D : Nat, (u : Int) / y1 = q ∧ IntKind.u64.wrap ((q : Int) * y1) = (p : Int) ∧ (u : Int) - p = r ∧
        p ≤ u ∧ q ≤ u ∧ (u ≤ p + r ∧ p + r ≤ u) ∧ r < 4294967296 ∧ Knuth.KR y1 u D q r ∧ Knuth.Digit y1 y0 u t D ∧
        IntKind.u64.wrap (IntKind.u64.wrap (IntKind.u64.wrap ((u : Int) * 4294967296) + t) - IntKind.u64.wrap ((D : Int) * v)) = (((u * 4294967296 + t) % v : Nat) : Int) ∧ Hid (D = (u * 4294967296 + t) / v) := by
  have h := Nat.div_add_mod u y1
  have hl := Nat.mod_lt u hy1
  refine ⟨u / y1, u / y1 * y1, u % y1, (u * 4294967296 + t) / v, (Int.natCast_ediv u y1).symm, ?_, ?_, ?_, Nat.div_le_self u y1, ?_, by omega, ?_, Knuth.Digit.mk' hy1 hy0 ht hv hu rfl, un_wrap u t v (by omega) hv2, rfl⟩
  · rw [← Int.natCast_mul, u64in _ (by rw [Nat.mul_comm]; omega)]
  · rw [Nat.mul_comm]; omega
  · rw [Nat.mul_comm]; omega
  · rw [Nat.mul_comm]; omega
  · subst hv; exact Knuth.KR.start hy1 ht

theorem norm (hi lo y s : Nat) (h1 : hi < y) (h2 : y < 9223372036854775808) (h3 : lo < 18446744073709551616) (hs : 64 - Lib.bitLen y = s) :
    ∃ v y1 y0 u t t1 t0 : Nat,
      IntKind.u64.wrap ((y : Int) * 2 ^ s) = (v : Int) ∧ (v : Int) / 4294967296 = y1 ∧ bits .and .u64 (v : Int) 4294967295 = (y0 : Int) ∧
      bits .or .u64 (IntKind.u64.wrap ((hi : Int) * 2 ^ s)) ((lo : Int) / 2 ^ (64 - s)) = (u : Int) ∧
      IntKind.u64.wrap ((lo : Int) * 2 ^ s) = (t : Int) ∧ (t : Int) / 4294967296 = (t1 : Int) ∧ bits .and .u64 (t : Int) 4294967295 = (t0 : Int) ∧
      2147483648 ≤ y1 ∧ y1 < 4294967296 ∧ y0 < 4294967296 ∧ u < v ∧ v < 18446744073709551616 ∧ t1 < 4294967296 ∧ t0 < 4294967296 ∧ t < 18446744073709551616 ∧
      Hid (v = y1 * 4294967296 + y0) ∧ Hid (v = y * 2 ^ s) ∧ Hid ((hi * 18446744073709551616 + lo) * 2 ^ s = (u * 4294967296 + t1) * 4294967296 + t0) := by
  obtain ⟨l1, l2, l3, l4⟩ := len_is y (by omega) (by omega)
  have hb : Lib.bitLen y = 64 - s := by omega
  have hs2 : s ≤ 63 := by omega
  rw [hb] at l3 l4
  have hk : 0 < 2 ^ s := Nat.two_pow_pos s
  have e64 : 2 ^ (64 - s) * 2 ^ s = 18446744073709551616 := by rw [← Nat.pow_add, show 64 - s + s = 64 from by omega]
  have e63 : 2 ^ (64 - s - 1) * 2 ^ s = 9223372036854775808 := by rw [← Nat.pow_add, show 64 - s - 1 + s = 63 from by omega]
  have g1 : y * 2 ^ s < 18446744073709551616 := by rw [← e64]; exact Nat.mul_lt_mul_of_pos_right l4 hk
  have g2 : 9223372036854775808 ≤ y * 2 ^ s := by rw [← e63]; exact Nat.mul_le_mul_right _ l3
  have g3 : (hi + 1) * 2 ^ s ≤ y * 2 ^ s := Nat.mul_le_mul_right _ h1
  rw [Nat.add_mul, Nat.one_mul] at g3
  have ec : lo / 2 ^ (64 - s) = lo * 2 ^ s / 18446744073709551616 := by rw [← e64, Nat.mul_div_mul_right _ _ hk]
  have hc : lo * 2 ^ s / 18446744073709551616 < 2 ^ s := by
    rw [Nat.div_lt_iff_lt_mul (by omega), Nat.mul_comm (2 ^ s)]
    exact Nat.mul_lt_mul_of_pos_right h3 hk
  have eor : (hi * 2 ^ s) ||| (lo * 2 ^ s / 18446744073709551616) = hi * 2 ^ s + lo * 2 ^ s / 18446744073709551616 := by
    rw [Nat.mul_comm hi, ← Nat.two_pow_add_eq_or_of_lt hc]
  refine ⟨y * 2 ^ s, y * 2 ^ s / 4294967296, y * 2 ^ s % 4294967296, hi * 2 ^ s + lo * 2 ^ s / 18446744073709551616, lo * 2 ^ s % 18446744073709551616, lo * 2 ^ s % 18446744073709551616 / 4294967296, lo * 2 ^ s % 18446744073709551616 % 4294967296, ?_, ?_, ?_, ?_, ?_, ?_, ?_, ?_, ?_, ?_, ?_, g1, ?_, ?_, ?_, ?_, rfl, ?_⟩
  · rw [u64cast, u64in _ g1]
  · exact div32 _
  · exact and32 _ g1
  · rw [u64cast, u64in _ (by omega), u64shr, ec, bits_or_u64_nat _ _ (by omega) (by omega), eor]
  · rw [u64cast, u64mod]
  · exact div32 _
  · exact and32 _ (by omega)
  · omega
  · omega
  · omega
  · omega
  · omega
  · omega
  · omega
  · show _ = _; omega
  · show _ = _
    rw [Nat.add_mul, Nat.mul_right_comm]
    generalize lo * 2 ^ s = a
    generalize hi * 2 ^ s = b
    omega

theorem done (X y u t1 t0 v m D D' k : Nat) (hk : 0 < k) (hv0 : 0 < v) (hv : v = y * k) (e : X * k = (u * 4294967296 + t1) * 4294967296 + t0) (hm : m = (u * 4294967296 + t1) % v) (hD : D = (u * 4294967296 + t1) / v) (hD' : D' = (m * 4294967296 + t0) / v) :
    D * 4294967296 + D' = X / y ∧ (m * 4294967296 + t0) % v / k = X % y := by
  obtain ⟨a, b⟩ := Knuth.two 4294967296 v u t1 t0 hv0
  obtain ⟨c, d⟩ := Knuth.scaled X y k hk
  rw [← hv, e] at c d
  rw [← hm] at a b
  rw [← hD, ← hD'] at a
  refine ⟨by rw [← a, c], ?_⟩
  rw [← b, d, Nat.mul_div_cancel _ hk]

end Go.Proofs.Ytddihpiheopleaa.Fo
