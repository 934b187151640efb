/- The walk of PairTells: for every row the law returns true. Conditions: the slice reads as the list, of numbers that are not negative, and is no longer than its memory. -/
import Derived.Test.YtijdippkkaigjaaPr20
import Derived.Test.YtijdippkkaigjaaPr21
namespace Go.Proofs.Ytijdippkkaigjaa
open Go.ChangeShapes Go.WideShapes Go.ChangeAt Go.RowKit Go.Shelf
open Pr

set_option maxRecDepth 100000 in
set_option maxHeartbeats 8000000 in
theorem lawTells_any (l : List Int) (v : Value) (w : World) (R : R8 w v l) (hcap : Cap v) (h0 : ∀ c ∈ l, 0 ≤ c) :
    Calls Try.prog 3 #[v] w fun e w' => e = .returned (.bool true) ∧ Below w.heap.size w w' := by
  have H0 := Lib.hid h0
  have HCP := Lib.hid hcap
  obtain ⟨A, cap, rfl⟩ := R.form
  obtain ⟨n, hn⟩ : ∃ n, l.length = n := ⟨_, rfl⟩
  have HN := Lib.hid hn
  rw [r8_len, hn] at R HCP ⊢
  clear h0 hcap hn
  go_enter Try.func3, Try.ntmps3
  go_wp2_with fail
  refine (pgreat_any _ _ _ _).mono ?_
  rintro e w_0 ⟨rfl, rfl⟩
  by_cases hg : 120 < n
  · rw [decide_eq_true hg]
    go_wp2_with fail
    refine (phead_any _).mono ?_
    rintro e w_1 ⟨rfl, b⟩
    go_wp2_with fail
    go_ret
    exact ⟨rfl, b⟩
  have HL : Hid (l.length ≤ 120) := Lib.hid (by rw [HN.out]; omega)
  rw [decide_eq_false hg]
  clear hg
  go_wp2_with fail
  refine (rall_any l _ _ R HCP.out (by have := HL.out; omega)).mono ?_
  rintro e w_1 ⟨u1, u2, u3, rfl, S1, S2, S3, d1⟩
  have R := R.below d1
  have bel := d1
  go_wp2_with fail
  refine (pRules_any l _ _ R (by have := HL.out; omega) H0.out).mono ?_
  rintro e w_2 ⟨u4, rfl, S4, d2⟩
  have R := R.below d2
  have S1 := S1.below d2
  have S2 := S2.below d2
  have S3 := S3.below d2
  have bel := below_seq bel d2
  go_wp2_with fail
  refine (psame8 _ _ _ _ S4 S1 (by rw [rulesL_len]; have := HL.out; omega)).mono ?_
  rintro e w_3 ⟨rfl, d3⟩
  have R := R.below d3
  have S1 := S1.below d3
  have S2 := S2.below d3
  have S3 := S3.below d3
  have S4 := S4.below d3
  have bel := below_seq bel d3
  go_wp2_with fail
  refine (pBreaks_any l _ _ R (by have := HL.out; omega) H0.out).mono ?_
  rintro e w_4 ⟨u5, rfl, S5, d4⟩
  have R := R.below d4
  have S1 := S1.below d4
  have S2 := S2.below d4
  have S3 := S3.below d4
  have S4 := S4.below d4
  have bel := below_seq bel d4
  go_wp2_with fail
  refine (psameB _ _ _ _ S5 S2 (by rw [breaksL_len]; have := HL.out; omega)).mono ?_
  rintro e w_5 ⟨rfl, d5⟩
  have R := R.below d5
  have S1 := S1.below d5
  have S2 := S2.below d5
  have S3 := S3.below d5
  have S4 := S4.below d5
  have S5 := S5.below d5
  have bel := below_seq bel d5
  go_wp2_with fail
  refine (pMust_any l _ _ R (by have := HL.out; omega) H0.out).mono ?_
  rintro e w_6 ⟨u6, rfl, S6, d6⟩
  have R := R.below d6
  have S1 := S1.below d6
  have S2 := S2.below d6
  have S3 := S3.below d6
  have S4 := S4.below d6
  have S5 := S5.below d6
  have bel := below_seq bel d6
  go_wp2_with fail
  refine (psameB _ _ _ _ S6 S3 (by rw [mustL_len]; have := HL.out; omega)).mono ?_
  rintro e w_7 ⟨rfl, d7⟩
  have R := R.below d7
  have S1 := S1.below d7
  have S2 := S2.below d7
  have S3 := S3.below d7
  have S4 := S4.below d7
  have S5 := S5.below d7
  have S6 := S6.below d7
  have bel := below_seq bel d7
  go_wp2_with fail
  refine (phead_any _).mono ?_
  rintro e w_8 ⟨rfl, d8⟩
  have R := R.below d8
  have S1 := S1.below d8
  have S2 := S2.below d8
  have S3 := S3.below d8
  have S4 := S4.below d8
  have S5 := S5.below d8
  have S6 := S6.below d8
  have bel := below_seq bel d8
  go_wp2_with fail
  go_ret
  exact ⟨rfl, bel⟩
end Go.Proofs.Ytijdippkkaigjaa
