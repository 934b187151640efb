/- Contract of unit.Scale, whole: the product by the divisor, rounded half up, or an error. Conditions: the arguments are int64. Nothing that was in memory turns ('Kept'). -/
import Derived.Test.YtddihpiheopleaaUnitC
namespace Go.Proofs.Ytddihpiheopleaa.Fo
open Go.ChangeShapes Go.WideShapes Go.ChangeAt Go.RowKit

/-- the quotient, rounded: halfway the greater -/
def rnd (n b o : Int) : Int := (2 * (n * b) + o) / (2 * o)

theorem ediv_is (a b q : Int) (hb : 0 < b) (h1 : q * b ≤ a) (h2 : a < q * b + b) : a / b = q := by
  have e1 : q ≤ a / b := Int.le_ediv_of_mul_le hb h1
  have e2 : a / b < q + 1 := Int.ediv_lt_of_lt_mul hb (by rw [Int.add_mul]; omega)
  omega

theorem abs_mul (n b : Int) : (n.natAbs * b.natAbs : Nat) = (n * b).natAbs := (Int.natAbs_mul n b).symm

theorem rnd_sc (n b : Int) (O : Nat) (below : Bool) (o1 : 1 ≤ O) (hs : Signs n b below) : rnd n b O = sc (n.natAbs * b.natAbs) O below := by
  have hsign : (below = true → n * b = -((n.natAbs * b.natAbs : Nat) : Int)) ∧ (below = false → n * b = ((n.natAbs * b.natAbs : Nat) : Int)) := by
    rw [Int.natCast_mul]
    rcases hs with ⟨s1, s2, rfl⟩ | ⟨s1, s2, rfl⟩ | ⟨s1, s2, rfl⟩ | ⟨s1, s2, rfl⟩
    · refine ⟨fun _ => ?_, by simp⟩
      rw [show (n.natAbs : Int) = -n by omega, show (b.natAbs : Int) = b by omega, Int.neg_mul, Int.neg_neg]
    · refine ⟨fun _ => ?_, by simp⟩
      rw [show (n.natAbs : Int) = n by omega, show (b.natAbs : Int) = -b by omega, Int.mul_neg, Int.neg_neg]
    · refine ⟨by simp, fun _ => ?_⟩
      rw [show (n.natAbs : Int) = -n by omega, show (b.natAbs : Int) = -b by omega, Int.neg_mul_neg]
    · refine ⟨by simp, fun _ => ?_⟩
      rw [show (n.natAbs : Int) = n by omega, show (b.natAbs : Int) = b by omega]
  generalize n.natAbs * b.natAbs = P at *
  have hd := Nat.div_add_mod P O
  have hm := Nat.mod_lt P o1
  unfold rnd
  cases below
  · rw [hsign.2 rfl]
    unfold sc upB
    simp only [Bool.false_eq_true, if_false, decide_eq_true_eq]
    generalize P / O = Q at *
    generalize P % O = R at *
    subst hd
    rw [Int.natCast_add, Int.natCast_mul]
    split
    · refine ediv_is _ _ _ (by omega) ?_ ?_ <;> simp only [Int.natCast_add, Int.add_mul, Int.mul_add] <;> rw [show ((Q : Int) * (2 * O)) = 2 * ((O : Int) * Q) by rw [Int.mul_left_comm, Int.mul_comm (Q : Int)]] <;> omega
    · refine ediv_is _ _ _ (by omega) ?_ ?_ <;> simp only [Int.natCast_add, Int.add_mul, Int.mul_add] <;> rw [show ((Q : Int) * (2 * O)) = 2 * ((O : Int) * Q) by rw [Int.mul_left_comm, Int.mul_comm (Q : Int)]] <;> omega
  · rw [hsign.1 rfl]
    unfold sc upB
    simp only [if_true, decide_eq_true_eq]
    generalize P / O = Q at *
    generalize P % O = R at *
    subst hd
    rw [Int.natCast_add, Int.natCast_mul]
    split
    · refine ediv_is _ _ _ (by omega) ?_ ?_ <;> simp only [Int.natCast_add, Int.neg_mul, Int.add_mul, Int.mul_add, Int.mul_neg] <;> rw [show ((Q : Int) * (2 * O)) = 2 * ((O : Int) * Q) by rw [Int.mul_left_comm, Int.mul_comm (Q : Int)]] <;> omega
    · refine ediv_is _ _ _ (by omega) ?_ ?_ <;> simp only [Int.natCast_add, Int.neg_mul, Int.add_mul, Int.mul_add, Int.mul_neg] <;> rw [show ((Q : Int) * (2 * O)) = 2 * ((O : Int) * Q) by rw [Int.mul_left_comm, Int.mul_comm (Q : Int)]] <;> omega

end Go.Proofs.Ytddihpiheopleaa.Fo
