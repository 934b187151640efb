/- Contract of the document's Scale (package stickfulref01): the product by the divisor, rounded half up, or an error. Conditions: the arguments are int64. Nothing that was in memory turns ('Kept'). -/
import Derived.Test.YtlbncmgecfnnbaaRefB
namespace Go.Proofs.Ytlbncmgecfnnbaa
open Go.ChangeShapes Go.WideShapes Go.ChangeAt Go.RowKit

theorem sc_is (P O q r : Nat) (below : Bool) (hq : q = P / O) (hr : r = P % O) : sc P O below = if below then -((q + (if O < 2 * r then 1 else 0) : Nat) : Int) else ((q + (if O ≤ 2 * r then 1 else 0) : Nat) : Int) := by
  subst hq; subst hr
  unfold sc upB
  cases below <;> simp

set_option maxHeartbeats 400000 in
theorem rscale_arg (n b o : Int) (w : World) (h : o < 1) :
    Calls Try.prog 26 #[.int .i64 n, .int .i64 b, .int .i64 o] w fun e w' => e = .returned (.tuple #[.int .i64 0, .int .i64 2]) ∧ w = w' := by
  go_enter Try.func26, Try.ntmps26
  go_wp2
  go_ret2
  exact ⟨rfl, rfl⟩

set_option maxRecDepth 100000 in
set_option maxHeartbeats 4000000 in
theorem rscale_t (n b : Int) (P O : Nat) (w : World) (hn : -9223372036854775808 ≤ n ∧ n ≤ 9223372036854775807) (hb : -9223372036854775808 ≤ b ∧ b ≤ 9223372036854775807) (o1 : 1 ≤ O) (o2 : O < 9223372036854775808)
    (hs : (n < 0 ∧ ¬ b < 0) ∨ (¬ n < 0 ∧ b < 0)) (hP : Hid (n.natAbs * b.natAbs = P)) :
    Calls Try.prog 26 #[.int .i64 n, .int .i64 b, .int .i64 O] w fun e w' => e = .returned (.tuple #[.int .i64 (fitV (sc P O true)), .int .i64 (fitE (sc P O true))]) ∧ Kept w w' := by
  rcases hs with ⟨s1, s2⟩ | ⟨s1, s2⟩
  all_goals
    go_enter Try.func26, Try.ntmps26
    go_wp2_with fail
    refine (rsize_any n _ (by omega) (by omega)).mono ?_
    rintro e w' ⟨rfl, rfl⟩
    go_wp2_with fail
    refine (rsize_any b _ (by omega) (by omega)).mono ?_
    rintro e w' ⟨rfl, rfl⟩
    go_wp2_with fail
    refine (product_any n.natAbs b.natAbs _ (by omega) (by omega)).mono ?_
    rintro e w1 ⟨rfl, g1, bs, R, L, B, V⟩
    have C := Lib.hid (quotient_any w.heap.size O bs w1 o1 o2 R L B)
    rw [V, hP.out] at C
    clear R L B V
    go_wp2_with fail
    refine C.out.mono ?_
    rintro e w2 ⟨rfl, q, r, ok, rfl, H⟩
    clear C
    rcases H with ⟨rfl, hq, hr, hlt⟩ | ⟨rfl, hov⟩
    · have hrO : r < O := by rw [hr]; exact Nat.mod_lt _ o1
      have HS := Lib.hid (sc_is P O q r true hq hr)
      simp only [if_true] at HS
      clear hq hr
      by_cases up : O < 2 * r
      · rw [if_pos up, Int.natCast_add] at HS
        have hz1 : 0 ≤ (q : Int) ∧ (q : Int) < 9223372036854775808 := by omega
        clear hlt
        generalize (q : Int) = z at *
        have up2 : (O : Int) - r < (r : Int) := by omega
        by_cases big : 4611686018427387904 < z + 1
        · have F : Hid (fitV (-(z + ((1 : Nat) : Int))) = 0 ∧ fitE (-(z + ((1 : Nat) : Int))) = 10) := by
            unfold fitV fitE
            rw [if_neg (by omega), if_neg (by omega)]; exact ⟨rfl, rfl⟩
          rw [← HS.out] at F
          clear up HS
          go_wp2_with fail
          go_ret2
          exact ⟨ret2 F.out.1.symm F.out.2.symm, g1⟩
        · have F := Lib.hid (fits_is (-(z + ((1 : Nat) : Int))) (by omega) (by omega))
          rw [← HS.out] at F
          clear up
          go_wp2_with fail
          go_ret2
          exact ⟨ret2 (by rw [F.out.1, HS.out]; omega) F.out.2.symm, g1⟩
      · rw [if_neg up, Nat.add_zero] at HS
        have hz1 : 0 ≤ (q : Int) ∧ (q : Int) < 9223372036854775808 := by omega
        clear hlt
        generalize (q : Int) = z at *
        have up2 : ¬ (O : Int) - r < (r : Int) := by omega
        by_cases big : 4611686018427387904 < z
        · have F : Hid (fitV (-z) = 0 ∧ fitE (-z) = 10) := by
            unfold fitV fitE
            rw [if_neg (by omega), if_neg (by omega)]; exact ⟨rfl, rfl⟩
          rw [← HS.out] at F
          clear up HS
          go_wp2_with fail
          go_ret2
          exact ⟨ret2 F.out.1.symm F.out.2.symm, g1⟩
        · have F := Lib.hid (fits_is (-z) (by omega) (by omega))
          rw [← HS.out] at F
          clear up
          go_wp2_with fail
          go_ret2
          exact ⟨ret2 (by rw [F.out.1, HS.out]) F.out.2.symm, g1⟩
    · have F := Lib.hid (sc_over P O true (by omega))
      clear hov
      go_wp2_with fail
      go_ret2
      exact ⟨ret2 F.out.1.symm F.out.2.symm, g1⟩

set_option maxRecDepth 100000 in
set_option maxHeartbeats 4000000 in
theorem rscale_f (n b : Int) (P O : Nat) (w : World) (hn : -9223372036854775808 ≤ n ∧ n ≤ 9223372036854775807) (hb : -9223372036854775808 ≤ b ∧ b ≤ 9223372036854775807) (o1 : 1 ≤ O) (o2 : O < 9223372036854775808)
    (hs : (n < 0 ∧ b < 0) ∨ (¬ n < 0 ∧ ¬ b < 0)) (hP : Hid (n.natAbs * b.natAbs = P)) :
    Calls Try.prog 26 #[.int .i64 n, .int .i64 b, .int .i64 O] w fun e w' => e = .returned (.tuple #[.int .i64 (fitV (sc P O false)), .int .i64 (fitE (sc P O false))]) ∧ Kept w w' := by
  rcases hs with ⟨s1, s2⟩ | ⟨s1, s2⟩
  all_goals
    go_enter Try.func26, Try.ntmps26
    go_wp2_with fail
    refine (rsize_any n _ (by omega) (by omega)).mono ?_
    rintro e w' ⟨rfl, rfl⟩
    go_wp2_with fail
    refine (rsize_any b _ (by omega) (by omega)).mono ?_
    rintro e w' ⟨rfl, rfl⟩
    go_wp2_with fail
    refine (product_any n.natAbs b.natAbs _ (by omega) (by omega)).mono ?_
    rintro e w1 ⟨rfl, g1, bs, R, L, B, V⟩
    have C := Lib.hid (quotient_any w.heap.size O bs w1 o1 o2 R L B)
    rw [V, hP.out] at C
    clear R L B V
    go_wp2_with fail
    refine C.out.mono ?_
    rintro e w2 ⟨rfl, q, r, ok, rfl, H⟩
    clear C
    rcases H with ⟨rfl, hq, hr, hlt⟩ | ⟨rfl, hov⟩
    · have hrO : r < O := by rw [hr]; exact Nat.mod_lt _ o1
      have HS := Lib.hid (sc_is P O q r false hq hr)
      simp only [Bool.false_eq_true, if_false] at HS
      clear hq hr
      by_cases up : O ≤ 2 * r
      · rw [if_pos up, Int.natCast_add] at HS
        have hz1 : 0 ≤ (q : Int) ∧ (q : Int) < 9223372036854775808 := by omega
        clear hlt
        generalize (q : Int) = z at *
        have up2 : (O : Int) - r ≤ (r : Int) := by omega
        by_cases big : 4611686018427387904 < z + 1
        · have F : Hid (fitV ((z + ((1 : Nat) : Int))) = 0 ∧ fitE ((z + ((1 : Nat) : Int))) = 10) := by
            unfold fitV fitE
            rw [if_neg (by omega), if_neg (by omega)]; exact ⟨rfl, rfl⟩
          rw [← HS.out] at F
          clear up HS
          go_wp2_with fail
          go_ret2
          exact ⟨ret2 F.out.1.symm F.out.2.symm, g1⟩
        · have F := Lib.hid (fits_is ((z + ((1 : Nat) : Int))) (by omega) (by omega))
          rw [← HS.out] at F
          clear up
          go_wp2_with fail
          go_ret2
          exact ⟨ret2 (by rw [F.out.1, HS.out]; omega) F.out.2.symm, g1⟩
      · rw [if_neg up, Nat.add_zero] at HS
        have hz1 : 0 ≤ (q : Int) ∧ (q : Int) < 9223372036854775808 := by omega
        clear hlt
        generalize (q : Int) = z at *
        have up2 : ¬ (O : Int) - r ≤ (r : Int) := by omega
        by_cases big : 4611686018427387904 < z
        · have F : Hid (fitV (z) = 0 ∧ fitE (z) = 10) := by
            unfold fitV fitE
            rw [if_neg (by omega), if_neg (by omega)]; exact ⟨rfl, rfl⟩
          rw [← HS.out] at F
          clear up HS
          go_wp2_with fail
          go_ret2
          exact ⟨ret2 F.out.1.symm F.out.2.symm, g1⟩
        · have F := Lib.hid (fits_is (z) (by omega) (by omega))
          rw [← HS.out] at F
          clear up
          go_wp2_with fail
          go_ret2
          exact ⟨ret2 (by rw [F.out.1, HS.out]) F.out.2.symm, g1⟩
    · have F := Lib.hid (sc_over P O false (by omega))
      clear hov
      go_wp2_with fail
      go_ret2
      exact ⟨ret2 F.out.1.symm F.out.2.symm, g1⟩

theorem rscale_any (n b o : Int) (w : World) (hn : -9223372036854775808 ≤ n ∧ n ≤ 9223372036854775807) (hb : -9223372036854775808 ≤ b ∧ b ≤ 9223372036854775807) (ho : 1 ≤ o ∧ o ≤ 9223372036854775807) :
    Calls Try.prog 26 #[.int .i64 n, .int .i64 b, .int .i64 o] w fun e w' => e = .returned (.tuple #[.int .i64 (fitV (rnd n b o)), .int .i64 (fitE (rnd n b o))]) ∧ Kept w w' := by
  obtain ⟨O, rfl⟩ := Int.eq_ofNat_of_zero_le (show 0 ≤ o by omega)
  by_cases h1 : n < 0 <;> by_cases h2 : b < 0
  · rw [rnd_sc n b O false (by omega) (Or.inr (Or.inr (Or.inl ⟨h1, h2, rfl⟩)))]
    exact rscale_f n b _ O w hn hb (by omega) (by omega) (Or.inl ⟨h1, h2⟩) rfl
  · rw [rnd_sc n b O true (by omega) (Or.inl ⟨h1, h2, rfl⟩)]
    exact rscale_t n b _ O w hn hb (by omega) (by omega) (Or.inl ⟨h1, h2⟩) rfl
  · rw [rnd_sc n b O true (by omega) (Or.inr (Or.inl ⟨h1, h2, rfl⟩))]
    exact rscale_t n b _ O w hn hb (by omega) (by omega) (Or.inr ⟨h1, h2⟩) rfl
  · rw [rnd_sc n b O false (by omega) (Or.inr (Or.inr (Or.inr ⟨h1, h2, rfl⟩)))]
    exact rscale_f n b _ O w hn hb (by omega) (by omega) (Or.inr ⟨h1, h2⟩) rfl
end Go.Proofs.Ytlbncmgecfnnbaa
