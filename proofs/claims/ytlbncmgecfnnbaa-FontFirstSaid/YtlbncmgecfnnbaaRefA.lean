/- Contracts of the document's answers (package stickfulref01): May, fits, size, Halves, Sum, Stop: each is what the program's own function gives. Conditions: the arguments are of their types; a list has at most 1000 numbers. -/
import Derived.Test.YtlbncmgecfnnbaaUnitF
namespace Go.Proofs.Ytlbncmgecfnnbaa
open Go.ChangeShapes Go.WideShapes Go.ChangeAt Go.RowKit

set_option maxHeartbeats 400000 in
theorem rsize_any (n : Int) (w : World) (h1 : -9223372036854775808 ≤ n) (h2 : n ≤ 9223372036854775807) :
    Calls Try.prog 34 #[.int .i64 n] w fun e w' => e = .returned (.int .u64 (n.natAbs : Nat)) ∧ w = w' := by
  by_cases hn : n < 0
  · go_enter Try.func34, Try.ntmps34
    go_wp2
    go_ret
    exact ⟨ret1 (by omega), rfl⟩
  · go_enter Try.func34, Try.ntmps34
    go_wp2
    go_ret
    exact ⟨ret1 (by omega), rfl⟩

theorem tdiv2 (n : Int) : ∃ d r : Int, n.tdiv 2 = d ∧ n.tmod 2 = r ∧ -2 < r ∧ r < 2 ∧ n = 2 * d + r ∧ (0 ≤ n → 0 ≤ r) ∧ (n ≤ 0 → r ≤ 0) := by
  refine ⟨n.tdiv 2, n.tmod 2, rfl, rfl, ?_⟩
  have h := Int.tmod_add_mul_tdiv n 2
  rcases Int.lt_or_le n 0 with hn | hn
  · obtain ⟨y, rfl⟩ : ∃ y, n = -y := ⟨-n, by omega⟩
    have e1 : (-y).tmod 2 = -(y % 2) := by rw [Int.neg_tmod, Int.tmod_eq_emod_of_nonneg (by omega)]
    omega
  · rw [Int.tmod_eq_emod_of_nonneg hn] at *
    omega

theorem tdivM (n : Int) : ∃ d r : Int, n.tdiv 1000000 = d ∧ n.tmod 1000000 = r ∧ -1000000 < r ∧ r < 1000000 ∧ n = 1000000 * d + r ∧ (0 ≤ n → 0 ≤ r) ∧ (n ≤ 0 → r ≤ 0) := by
  refine ⟨n.tdiv 1000000, n.tmod 1000000, rfl, rfl, ?_⟩
  have h := Int.tmod_add_mul_tdiv n 1000000
  rcases Int.lt_or_le n 0 with hn | hn
  · obtain ⟨y, rfl⟩ : ∃ y, n = -y := ⟨-n, by omega⟩
    have e1 : (-y).tmod 1000000 = -(y % 1000000) := by rw [Int.neg_tmod, Int.tmod_eq_emod_of_nonneg (by omega)]
    omega
  · rw [Int.tmod_eq_emod_of_nonneg hn] at *
    omega

end Go.Proofs.Ytlbncmgecfnnbaa
