/- Contract of unit.Scale, whole: the product by the divisor, rounded half up, or an error. Conditions: the arguments are int64. Nothing that was in memory turns ('Kept'). -/
import Derived.Test.YtlbncmgecfnnbaaUnitC
namespace Go.Proofs.Ytlbncmgecfnnbaa
open Go.ChangeShapes Go.WideShapes Go.ChangeAt Go.RowKit

/-- the quotient, rounded: halfway the greater -/
def rnd (n b o : Int) : Int := (2 * (n * b) + o) / (2 * o)

theorem ediv_is (a b q : Int) (hb : 0 < b) (h1 : q * b ≤ a) (h2 : a < q * b + b) : a / b = q := by
  have e1 : q ≤ a / b := Int.le_ediv_of_mul_le hb h1
  have e2 : a / b < q + 1 := Int.ediv_lt_of_lt_mul hb (by rw [Int.add_mul]; omega)
  omega

theorem abs_mul (n b : Int) : (n.natAbs * b.natAbs : Nat) = (n * b).natAbs := (Int.natAbs_mul n b).symm

theorem rnd_sc (n b : Int) (O : Nat) (below : Bool) (o1 : 1 ≤ O) (hs : Signs n b below) : rnd n b O = sc (n.natAbs * b.natAbs) O below := by
  have hsign : (below = true → n * b = -((n.natAbs * b.natAbs : Nat) : Int)) ∧ (below = false → n * b = ((n.natAbs * b.natAbs : Nat) : Int)) := by
    rw [Int.natCast_mul]
    rcases hs with ⟨s1, s2, rfl⟩ | ⟨s1, s2, rfl⟩ | ⟨s1, s2, rfl⟩ | ⟨s1, s2, rfl⟩
    · refine ⟨fun _ => ?_, by simp⟩
      rw [show (n.natAbs : Int) = -n by omega, show (b.natAbs : Int) = b by omega, Int.neg_mul, Int.neg_neg]
    · refine ⟨fun _ => ?_, by simp⟩
      rw [show (n.natAbs : Int) = n by omega, show (b.natAbs : Int) = -b by omega, Int.mul_neg, Int.neg_neg]
    · refine ⟨by simp, fun _ => ?_⟩
      rw [show (n.natAbs : Int) = -n by omega, show (b.natAbs : Int) = -b by omega, Int.neg_mul_neg]
    · refine ⟨by simp, fun _ => ?_⟩
      rw [show (n.natAbs : Int) = n by omega, show (b.natAbs : Int) = b by omega]
  generalize n.natAbs * b.natAbs = P at *
  have hd := Nat.div_add_mod P O
  have hm := Nat.mod_lt P o1
  unfold rnd
  cases below
  · rw [hsign.2 rfl]
    unfold sc upB
    simp only [Bool.false_eq_true, if_false, decide_eq_true_eq]
    generalize P / O = Q at *
    generalize P % O = R at *
    subst hd
    rw [Int.natCast_add, Int.natCast_mul]
    split
    · refine ediv_is _ _ _ (by omega) ?_ ?_ <;> simp only [Int.natCast_add, Int.add_mul, Int.mul_add] <;> rw [show ((Q : Int) * (2 * O)) = 2 * ((O : Int) * Q) by rw [Int.mul_left_comm, Int.mul_comm (Q : Int)]] <;> omega
    · refine ediv_is _ _ _ (by omega) ?_ ?_ <;> simp only [Int.natCast_add, Int.add_mul, Int.mul_add] <;> rw [show ((Q : Int) * (2 * O)) = 2 * ((O : Int) * Q) by rw [Int.mul_left_comm, Int.mul_comm (Q : Int)]] <;> omega
  · rw [hsign.1 rfl]
    unfold sc upB
    simp only [if_true, decide_eq_true_eq]
    generalize P / O = Q at *
    generalize P % O = R at *
    subst hd
    rw [Int.natCast_add, Int.natCast_mul]
    split
    · refine ediv_is _ _ _ (by omega) ?_ ?_ <;> simp only [Int.natCast_add, Int.neg_mul, Int.add_mul, Int.mul_add, Int.mul_neg] <;> rw [show ((Q : Int) * (2 * O)) = 2 * ((O : Int) * Q) by rw [Int.mul_left_comm, Int.mul_comm (Q : Int)]] <;> omega
    · refine ediv_is _ _ _ (by omega) ?_ ?_ <;> simp only [Int.natCast_add, Int.neg_mul, Int.add_mul, Int.mul_add, Int.mul_neg] <;> rw [show ((Q : Int) * (2 * O)) = 2 * ((O : Int) * Q) by rw [Int.mul_left_comm, Int.mul_comm (Q : Int)]] <;> omega

set_option maxHeartbeats 400000 in
theorem scale_arg (n b o : Int) (w : World) (h : o < 1) :
    Calls Try.prog 29 #[.int .i64 n, .int .i64 b, .int .i64 o] w fun e w' => e = .returned (.tuple #[.int .i64 0, .int .i64 2]) ∧ w = w' := by
  go_enter Try.func29, Try.ntmps29
  go_wp2
  go_ret2
  exact ⟨rfl, rfl⟩

theorem scale_any (n b o : Int) (w : World) (hn : -9223372036854775808 ≤ n ∧ n ≤ 9223372036854775807) (hb : -9223372036854775808 ≤ b ∧ b ≤ 9223372036854775807) (ho : 1 ≤ o ∧ o ≤ 9223372036854775807) :
    Calls Try.prog 29 #[.int .i64 n, .int .i64 b, .int .i64 o] w fun e w' => e = .returned (.tuple #[.int .i64 (fitV (rnd n b o)), .int .i64 (fitE (rnd n b o))]) ∧ Kept w w' := by
  obtain ⟨O, rfl⟩ := Int.eq_ofNat_of_zero_le (show 0 ≤ o by omega)
  obtain ⟨below, hs⟩ : ∃ below, Signs n b below := by
    unfold Signs
    by_cases h1 : n < 0 <;> by_cases h2 : b < 0
    · exact ⟨false, by simp [h1, h2]⟩
    · exact ⟨true, by simp [h1, h2]⟩
    · exact ⟨true, by simp [h1, h2]⟩
    · exact ⟨false, by simp [h1, h2]⟩
  rw [rnd_sc n b O below (by omega) hs]
  by_cases h : O ≤ n.natAbs * b.natAbs / 18446744073709551616
  · rw [(sc_over _ O below (over_of _ O (by omega) h)).1, (sc_over _ O below (over_of _ O (by omega) h)).2]
    exact scale_a n b _ O below w hn hb (by omega) (by omega) hs rfl h
  · by_cases h2 : 4611686018427387904 < n.natAbs * b.natAbs / O
    · rw [(sc_over _ O below h2).1, (sc_over _ O below h2).2]
      exact scale_b n b _ O below w hn hb (by omega) (by omega) hs rfl (by omega) h2
    · rcases hs with ⟨s1, s2, rfl⟩ | ⟨s1, s2, rfl⟩ | ⟨s1, s2, rfl⟩ | ⟨s1, s2, rfl⟩
      · exact scale_ct n b _ O w hn hb (by omega) (by omega) (Or.inl ⟨s1, s2⟩) rfl (by omega) (by omega) _ rfl
      · exact scale_ct n b _ O w hn hb (by omega) (by omega) (Or.inr ⟨s1, s2⟩) rfl (by omega) (by omega) _ rfl
      · exact scale_cf n b _ O w hn hb (by omega) (by omega) (Or.inl ⟨s1, s2⟩) rfl (by omega) (by omega) _ rfl
      · exact scale_cf n b _ O w hn hb (by omega) (by omega) (Or.inr ⟨s1, s2⟩) rfl (by omega) (by omega) _ rfl
end Go.Proofs.Ytlbncmgecfnnbaa
