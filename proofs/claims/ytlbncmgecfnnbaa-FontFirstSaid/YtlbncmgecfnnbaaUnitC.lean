/- Contract of unit.Scale where the quotient is at most 2^62: it is rounded, given its sign, and summed. Conditions: the arguments are int64, the divisor is at least 1. -/
import Derived.Test.YtlbncmgecfnnbaaUnitB
namespace Go.Proofs.Ytlbncmgecfnnbaa
open Go.ChangeShapes Go.WideShapes Go.ChangeAt Go.RowKit

set_option maxHeartbeats 2000000 in
theorem scale_ct (n b : Int) (P O : Nat) (w : World) (hn : -9223372036854775808 ≤ n ∧ n ≤ 9223372036854775807) (hb : -9223372036854775808 ≤ b ∧ b ≤ 9223372036854775807) (o1 : 1 ≤ O) (o2 : O < 9223372036854775808)
    (hs : (n < 0 ∧ ¬ b < 0) ∨ (¬ n < 0 ∧ b < 0)) (hP : Hid (n.natAbs * b.natAbs = P)) (h : P / 18446744073709551616 < O) (h2 : P / O ≤ 4611686018427387904) (up : Bool) (hup : upB O (P % O) true = up) :
    Calls Try.prog 29 #[.int .i64 n, .int .i64 b, .int .i64 O] w fun e w' => e = .returned (.tuple #[.int .i64 (fitV (sc P O true)), .int .i64 (fitE (sc P O true))]) ∧ Kept w w' := by
  have h3 : ¬ O ≤ P / 18446744073709551616 := by omega
  obtain ⟨Q, hQ, hq, HQ⟩ : ∃ Q : Nat, (P : Int) / (O : Int) = (Q : Int) ∧ Q ≤ 4611686018427387904 ∧ Hid (P / O = Q) := ⟨P / O, (Int.natCast_ediv P O).symm, h2, rfl⟩
  have h5 := Nat.mod_lt P o1
  have HU := Lib.hid hup
  have HS : Hid (sc P O true = -((P / O + (if up then 1 else 0) : Nat) : Int)) := by
    show _ = _
    unfold sc
    rw [hup]
    simp
  rw [HQ.out] at HS
  clear hup h2
  rcases hs with ⟨s1, s2⟩ | ⟨s1, s2⟩ <;> cases up
  all_goals
    go_enter Try.func29, Try.ntmps29
    go_wp2_with fail
    refine (magnitude_any n _ (by omega) (by omega)).mono ?_
    rintro e w' ⟨rfl, rfl⟩
    go_wp2_with fail
    refine (magnitude_any b _ (by omega) (by omega)).mono ?_
    rintro e w' ⟨rfl, rfl⟩
    go_wp2_with fail
    refine (mul64_any n.natAbs b.natAbs (by omega) (by omega) _).mono ?_
    rintro e w' ⟨rfl, rfl⟩
    rw [hP.out]
    go_wp2_with fail
    refine (div64_any P O _ (by omega) (by omega) (by omega)).mono ?_
    rintro e w' ⟨rfl, nd, rfl⟩
    go_wp2_with fail
    refine (onward_any O (P % O) true _ _ _ (by omega) (by omega) (by simp) (by simp)).mono ?_
    rintro e w' ⟨rfl, rfl⟩
    rw [HU.out]
    go_wp2_with fail
    refine (sum1 _ _ _ _ (by simp) (by omega)).mono ?_
    rintro e w' ⟨rfl, rfl⟩
    go_wp2_with fail
    go_ret2
    rw [HS.out]
    exact ⟨by simp, kept_trans (kept_drewN (((Kept.refl _).alloc _ _).alloc _ _) nd) ((Kept.refl _).alloc _ _)⟩

set_option maxHeartbeats 2000000 in
theorem scale_cf (n b : Int) (P O : Nat) (w : World) (hn : -9223372036854775808 ≤ n ∧ n ≤ 9223372036854775807) (hb : -9223372036854775808 ≤ b ∧ b ≤ 9223372036854775807) (o1 : 1 ≤ O) (o2 : O < 9223372036854775808)
    (hs : (n < 0 ∧ b < 0) ∨ (¬ n < 0 ∧ ¬ b < 0)) (hP : Hid (n.natAbs * b.natAbs = P)) (h : P / 18446744073709551616 < O) (h2 : P / O ≤ 4611686018427387904) (up : Bool) (hup : upB O (P % O) false = up) :
    Calls Try.prog 29 #[.int .i64 n, .int .i64 b, .int .i64 O] w fun e w' => e = .returned (.tuple #[.int .i64 (fitV (sc P O false)), .int .i64 (fitE (sc P O false))]) ∧ Kept w w' := by
  have h3 : ¬ O ≤ P / 18446744073709551616 := by omega
  obtain ⟨Q, hQ, hq, HQ⟩ : ∃ Q : Nat, (P : Int) / (O : Int) = (Q : Int) ∧ Q ≤ 4611686018427387904 ∧ Hid (P / O = Q) := ⟨P / O, (Int.natCast_ediv P O).symm, h2, rfl⟩
  have h5 := Nat.mod_lt P o1
  have HU := Lib.hid hup
  have HS : Hid (sc P O false = ((P / O + (if up then 1 else 0) : Nat) : Int)) := by
    show _ = _
    unfold sc
    rw [hup]
    simp
  rw [HQ.out] at HS
  clear hup h2
  rcases hs with ⟨s1, s2⟩ | ⟨s1, s2⟩ <;> cases up
  all_goals
    go_enter Try.func29, Try.ntmps29
    go_wp2_with fail
    refine (magnitude_any n _ (by omega) (by omega)).mono ?_
    rintro e w' ⟨rfl, rfl⟩
    go_wp2_with fail
    refine (magnitude_any b _ (by omega) (by omega)).mono ?_
    rintro e w' ⟨rfl, rfl⟩
    go_wp2_with fail
    refine (mul64_any n.natAbs b.natAbs (by omega) (by omega) _).mono ?_
    rintro e w' ⟨rfl, rfl⟩
    rw [hP.out]
    go_wp2_with fail
    refine (div64_any P O _ (by omega) (by omega) (by omega)).mono ?_
    rintro e w' ⟨rfl, nd, rfl⟩
    go_wp2_with fail
    refine (onward_any O (P % O) false _ _ _ (by omega) (by omega) (by simp) (by simp)).mono ?_
    rintro e w' ⟨rfl, rfl⟩
    rw [HU.out]
    go_wp2_with fail
    refine (sum1 _ _ _ _ (by simp) (by omega)).mono ?_
    rintro e w' ⟨rfl, rfl⟩
    go_wp2_with fail
    go_ret2
    rw [HS.out]
    exact ⟨by simp, kept_trans (kept_drewN (((Kept.refl _).alloc _ _).alloc _ _) nd) ((Kept.refl _).alloc _ _)⟩
end Go.Proofs.Ytlbncmgecfnnbaa
