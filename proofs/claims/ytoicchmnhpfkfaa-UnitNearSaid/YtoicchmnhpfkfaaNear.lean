/- UnitNear: for every input the law returns true, and its arguments read behind the call as they did before. No condition. -/
import Derived.Test.YtoicchmnhpfkfaaCommon
import Derived.Test.YtoicchmnhpfkfaaRows
import Derived.WalkKit
import Derived.ProofKit
import Derived.OpenShut
namespace Go.Proofs.Ytoicchmnhpfkfaa.unitNear
open Go.ChangeShapes Go.WideShapes Go.ChangeAt Go.RowKit
set_option linter.unusedVariables false      -- a walk need not use every 'w<i>' (that an integer argument fits its kind)

theorem own : ownKnob Try.prog.godebug = none := by kernel_rfl

set_option maxRecDepth 100000 in
set_option maxHeartbeats 1000000 in
theorem out_a (n m b : Int) (w : World)  (h : n < -1073741824 ∨ 1073741824 < n) (hw : -9223372036854775808 ≤ n ∧ n ≤ 9223372036854775807) :
    Calls Try.prog 6 #[.int .i64 n, .int .i64 m, .int .i64 b] w fun e w' => e = .returned (.bool true) ∧ Kept w w' := by
  go_enter Try.func6, Try.ntmps6
  go_wp2_with fail
  refine (may_no n _ hw h).mono ?_
  rintro e w1 ⟨rfl, rfl⟩
  go_wp2_with fail
  refine (head_any _).mono ?_
  rintro e w1 ⟨rfl, g⟩
  go_wp2_with fail
  go_ret
  exact ⟨rfl, g⟩

set_option maxRecDepth 100000 in
set_option maxHeartbeats 1000000 in
theorem out_b (n m b : Int) (w : World) (hn : -1073741824 ≤ n ∧ n ≤ 1073741824) (h : m < -1073741824 ∨ 1073741824 < m) (hw : -9223372036854775808 ≤ m ∧ m ≤ 9223372036854775807) :
    Calls Try.prog 6 #[.int .i64 n, .int .i64 m, .int .i64 b] w fun e w' => e = .returned (.bool true) ∧ Kept w w' := by
  go_enter Try.func6, Try.ntmps6
  go_wp2_with fail
  refine (may_yes n _ (by omega) (by omega)).mono ?_
  rintro e w1 ⟨rfl, rfl⟩
  go_wp2_with fail
  refine (may_no m _ hw h).mono ?_
  rintro e w1 ⟨rfl, rfl⟩
  go_wp2_with fail
  refine (head_any _).mono ?_
  rintro e w1 ⟨rfl, g⟩
  go_wp2_with fail
  go_ret
  exact ⟨rfl, g⟩

set_option maxRecDepth 100000 in
set_option maxHeartbeats 1000000 in
theorem out_c (n m b : Int) (w : World) (hn : -1073741824 ≤ n ∧ n ≤ 1073741824) (hm : -1073741824 ≤ m ∧ m ≤ 1073741824) (h : b < -1073741824 ∨ 1073741824 < b) (hw : -9223372036854775808 ≤ b ∧ b ≤ 9223372036854775807) :
    Calls Try.prog 6 #[.int .i64 n, .int .i64 m, .int .i64 b] w fun e w' => e = .returned (.bool true) ∧ Kept w w' := by
  go_enter Try.func6, Try.ntmps6
  go_wp2_with fail
  refine (may_yes n _ (by omega) (by omega)).mono ?_
  rintro e w1 ⟨rfl, rfl⟩
  go_wp2_with fail
  refine (may_yes m _ (by omega) (by omega)).mono ?_
  rintro e w1 ⟨rfl, rfl⟩
  go_wp2_with fail
  refine (may_no b _ hw h).mono ?_
  rintro e w1 ⟨rfl, rfl⟩
  go_wp2_with fail
  refine (head_any _).mono ?_
  rintro e w1 ⟨rfl, g⟩
  go_wp2_with fail
  go_ret
  exact ⟨rfl, g⟩

set_option maxRecDepth 100000 in
set_option maxHeartbeats 2000000 in
theorem walk_a (n m b F : Int) (w : World) (hn : -1073741824 ≤ n ∧ n ≤ 1073741824) (hm : -1073741824 ≤ m ∧ m ≤ 1073741824) (hb : -1073741824 ≤ b ∧ b ≤ 1073741824) (hF : 1 ≤ F ∧ F ≤ 1073741824) (h0 : (b == 0) = false) (h0m : (b != 0) = true) (hmax : max b (-b) = F) :
    Calls Try.prog 6 #[.int .i64 n, .int .i64 m, .int .i64 b] w fun e w' => e = .returned (.bool true) ∧ Kept w w' := by
  obtain ⟨a, HA, p, q, hp, hq, hpb, hqb, o1, o2⟩ : ∃ a : Int, Hid (rnd n m F = a) ∧ ∃ p q : Int, wrap64 (a * F) = p ∧ wrap64 (n * m) = q ∧ (-2305843009213693952 ≤ p ∧ p ≤ 2305843009213693952) ∧ (-2305843009213693952 ≤ q ∧ q ≤ 2305843009213693952) ∧ 2 * (p - q) ≤ F ∧ -F < 2 * (p - q) := by
    have hq := mul_bd n m hn hm
    have hr := rnd_near n m F hF.1
    exact ⟨_, rfl, rnd n m F * F, n * m, IntWalk.wrap64_in _ (by omega), IntWalk.wrap64_in _ (by omega), by omega, by omega, by omega, by omega⟩
  obtain ⟨lo, hi, hlo, hhi, hlb, hhb, HL⟩ : ∃ lo hi : Int, min n m = lo ∧ max n m = hi ∧ (-1073741824 ≤ lo ∧ lo ≤ 1073741824) ∧ (-1073741824 ≤ hi ∧ hi ≤ 1073741824) ∧ lo ≤ hi := ⟨min n m, max n m, rfl, rfl, by omega, by omega, by omega⟩
  have hmono : rnd lo F 7 ≤ rnd hi F 7 := by
    unfold rnd
    have : lo * F ≤ hi * F := Int.mul_le_mul_of_nonneg_right HL (by omega)
    exact Int.ediv_le_ediv (by omega) (by omega)
  obtain ⟨L, H, HL1, HH1, hLH⟩ : ∃ L H : Int, Hid (rnd lo F 7 = L) ∧ Hid (rnd hi F 7 = H) ∧ L ≤ H := ⟨_, _, rfl, rfl, hmono⟩
  have en : (n == n) = true := by simp
  clear hmono
  go_enter Try.func6, Try.ntmps6
  go_wp2_with fail
  refine (may_yes n _ (by omega) (by omega)).mono ?_
  rintro e w1 ⟨rfl, rfl⟩
  go_wp2_with fail
  refine (may_yes m _ (by omega) (by omega)).mono ?_
  rintro e w1 ⟨rfl, rfl⟩
  go_wp2_with fail
  refine (may_yes b _ (by omega) (by omega)).mono ?_
  rintro e w1 ⟨rfl, rfl⟩
  go_wp2_with fail
  refine (scale_ok n m F _ (by omega) (by omega) (by omega)).mono ?_
  rintro e w1 ⟨rfl, g1⟩
  rw [HA.out]
  go_wp2_with fail
  refine (scale_ok n F F _ (by omega) (by omega) (by omega)).mono ?_
  rintro e w2 ⟨rfl, g2⟩
  rw [rnd_self n F hF.1]
  go_wp2_with fail
  refine (scale_ok lo F 7 _ (by omega) (by omega) (by omega)).mono ?_
  rintro e w3 ⟨rfl, g3⟩
  rw [HL1.out]
  go_wp2_with fail
  refine (scale_ok hi F 7 _ (by omega) (by omega) (by omega)).mono ?_
  rintro e w4 ⟨rfl, g4⟩
  rw [HH1.out]
  go_wp2_with fail
  refine (head_any _).mono ?_
  rintro e w5 ⟨rfl, g5⟩
  go_wp2_with fail
  go_ret
  exact ⟨by simp, kept_trans g1 (kept_trans g2 (kept_trans g3 (kept_trans g4 g5)))⟩

set_option maxRecDepth 100000 in
set_option maxHeartbeats 2000000 in
theorem walk_b (n m b : Int) (w : World) (hn : -1073741824 ≤ n ∧ n ≤ 1073741824) (hm : -1073741824 ≤ m ∧ m ≤ 1073741824) (hb : -1073741824 ≤ b ∧ b ≤ 1073741824) (hb0 : b = 0) :
    Calls Try.prog 6 #[.int .i64 n, .int .i64 m, .int .i64 b] w fun e w' => e = .returned (.bool true) ∧ Kept w w' := by
  subst hb0
  obtain ⟨a, HA, q, hq, hpb, hqb, o1, o2⟩ : ∃ a : Int, Hid (rnd n m 1 = a) ∧ ∃ q : Int, wrap64 (n * m) = q ∧ (-2305843009213693952 ≤ a ∧ a ≤ 2305843009213693952) ∧ (-2305843009213693952 ≤ q ∧ q ≤ 2305843009213693952) ∧ 2 * (a - q) ≤ 1 ∧ -1 < 2 * (a - q) := by
    have hq := mul_bd n m hn hm
    have hr := rnd_near n m 1 (by omega)
    exact ⟨_, rfl, n * m, IntWalk.wrap64_in _ (by omega), by omega, by omega, by omega, by omega⟩
  obtain ⟨lo, hi, hlo, hhi, hlb, hhb, HL⟩ : ∃ lo hi : Int, min n m = lo ∧ max n m = hi ∧ (-1073741824 ≤ lo ∧ lo ≤ 1073741824) ∧ (-1073741824 ≤ hi ∧ hi ≤ 1073741824) ∧ lo ≤ hi := ⟨min n m, max n m, rfl, rfl, by omega, by omega, by omega⟩
  have hmono : rnd lo 1 7 ≤ rnd hi 1 7 := by
    unfold rnd
    have : lo * 1 ≤ hi * 1 := Int.mul_le_mul_of_nonneg_right HL (by omega)
    exact Int.ediv_le_ediv (by omega) (by omega)
  obtain ⟨L, H, HL1, HH1, hLH⟩ : ∃ L H : Int, Hid (rnd lo 1 7 = L) ∧ Hid (rnd hi 1 7 = H) ∧ L ≤ H := ⟨_, _, rfl, rfl, hmono⟩
  have en : (n == n) = true := by simp
  clear hmono
  go_enter Try.func6, Try.ntmps6
  go_wp2_with fail
  refine (may_yes n _ (by omega) (by omega)).mono ?_
  rintro e w1 ⟨rfl, rfl⟩
  go_wp2_with fail
  refine (may_yes m _ (by omega) (by omega)).mono ?_
  rintro e w1 ⟨rfl, rfl⟩
  go_wp2_with fail
  refine (may_yes 0 _ (by omega) (by omega)).mono ?_
  rintro e w1 ⟨rfl, rfl⟩
  go_wp2_with fail
  refine (scale_ok n m 1 _ (by omega) (by omega) (by omega)).mono ?_
  rintro e w1 ⟨rfl, g1⟩
  rw [HA.out]
  go_wp2_with fail
  refine (scale_ok n 1 1 _ (by omega) (by omega) (by omega)).mono ?_
  rintro e w2 ⟨rfl, g2⟩
  rw [rnd_self n 1 (by omega)]
  go_wp2_with fail
  refine (scale_ok lo 1 7 _ (by omega) (by omega) (by omega)).mono ?_
  rintro e w3 ⟨rfl, g3⟩
  rw [HL1.out]
  go_wp2_with fail
  refine (scale_ok hi 1 7 _ (by omega) (by omega) (by omega)).mono ?_
  rintro e w4 ⟨rfl, g4⟩
  rw [HH1.out]
  go_wp2_with fail
  refine (head_any _).mono ?_
  rintro e w5 ⟨rfl, g5⟩
  go_wp2_with fail
  go_ret
  exact ⟨by simp, kept_trans g1 (kept_trans g2 (kept_trans g3 (kept_trans g4 g5)))⟩

theorem walk (a0 : Int) (a1 : Int) (a2 : Int) (w0 : (Lit.int .i64 a0).wf = true) (w1 : (Lit.int .i64 a1).wf = true) (w2 : (Lit.int .i64 a2).wf = true) (w : World) :
    Calls Try.prog 6 #[.int .i64 a0, .int .i64 a1, .int .i64 a2] w fun e w' => e = .returned (.bool true) ∧ Kept w w' := by
  by_cases h0 : a0 < -1073741824 ∨ 1073741824 < a0
  · exact out_a a0 a1 a2 w h0 (wf64 w0)
  · by_cases h1 : a1 < -1073741824 ∨ 1073741824 < a1
    · exact out_b a0 a1 a2 w (by omega) h1 (wf64 w1)
    · by_cases h2 : a2 < -1073741824 ∨ 1073741824 < a2
      · exact out_c a0 a1 a2 w (by omega) (by omega) h2 (wf64 w2)
      · by_cases hz : a2 = 0
        · exact walk_b a0 a1 a2 w (by omega) (by omega) (by omega) hz
        · exact walk_a a0 a1 a2 _ w (by omega) (by omega) (by omega) (by omega) (by simpa using hz) (by simpa using hz) rfl

/-! ### THE ROW's STEP: WRITTEN OUT: LEAVE IT -/
set_option maxRecDepth 100000 in
theorem lifted (os : Os) (started : os.Started) (H : Type) (enc : TypeId × Value → H) :
    ReturnsInHanded {} Try.checked os 6 .any (Rows.unitNearSpec.pre6 enc Try.prog Try.f6 Rows.unitNearRow.domain false) (Rows.unitNearSpec.post enc Try.prog Try.f6 false true false false) := by
  refine returnsInHanded_of_change (C := Try.checked) own started (by kernel_rfl) Try.func6
    (ChangeSpec.witness6 (enc := enc) (C := Try.checked) false ⟨#[], #[.int .i64 0, .int .i64 0, .int .i64 0], []⟩ 8 (by kernel_rfl) (by kernel_rfl) (by kernel_rfl) (by kernel_rfl)) ?_
  intro W base args ds gs before hval0 hW hcnd _
  have hval : ∀ (j : Nat) t v, Try.f6.params[j]? = some t → args[j]? = some v → Value.okWide Try.prog W .any base t v := hval0
  have hW' := hW
  obtain ⟨p, q, hA0, hV, rfl, hfz, hnd⟩ := hW
  have hA : DataW.TrodAll enc Try.prog W 0 (fun _ => true) true Try.f6.params.toList args.toList ds p := hA0
  rw [Try.params6] at hA hval
  obtain ⟨v0, vs0, d0, ds0, p0, q0, hargs, rfl, rfl, h0, r0⟩ := trodAll_cons hA
  obtain ⟨v1, vs1, d1, ds1, p1, q1, rfl, rfl, rfl, h1, r1⟩ := trodAll_cons r0
  obtain ⟨v2, vs2, d2, ds2, p2, q2, rfl, rfl, rfl, h2, r2⟩ := trodAll_cons r1
  obtain ⟨rfl, rfl, rfl⟩ := trodAll_nil r2
  obtain rfl : args = #[v0, v1, v2] := by cases args; simp_all
  obtain ⟨rfl, rfl⟩ := trodVars_none hV
  obtain ⟨a0, rfl, rfl, rfl, w0⟩ := open_int Try.underlying2 (hval 0 2 v0 rfl rfl) h0
  obtain ⟨a1, rfl, rfl, rfl, w1⟩ := open_int Try.underlying2 (hval 1 2 v1 rfl rfl) h1
  obtain ⟨a2, rfl, rfl, rfl, w2⟩ := open_int Try.underlying2 (hval 2 2 v2 rfl rfl) h2
  clear hA0 hval0
  simp only [List.append_nil] at hW'
  refine (walk a0 a1 a2 w0 w1 w2 W).mono fun e W' ⟨he, hg⟩ => ?_
  subst he
  exact ⟨_, rfl, post_of_same (pa := []) (pv := []) hW' (fun _ _ _ => (trodAll_cons_mk (shut_bool Try.underlying4 _) trodAll_mk0)) (fun sp _ => (trodAll_cons_mk (shut_int Try.underlying2 w0) (trodAll_cons_mk (shut_int Try.underlying2 w1) (trodAll_cons_mk (shut_int Try.underlying2 w2) trodAll_mk0)))) (fun _ _ => rfl) rfl
    (hg.frame _) hg.2.1 (ok_one (by kernel_rfl) rfl (okWide_bool_mk Try.underlying4 _))⟩

theorem over : Rows.unitNearRow.holds Try.pinned (OpenSpec.ofChange Rows.unitNearSpec) :=
  OpenClaim.holds_of_wide 6 Try.f6 rfl rfl rfl rfl rfl rfl rfl ⟨rfl, rfl, rfl, rfl, rfl⟩ rfl rfl rfl rfl rfl (by kernel_rfl) Try.func6 (by kernel_rfl)
    (of_decide_eq_true (by kernel_rfl)) (by unfold Func.isWrapper; first | (rw [if_pos (by decide +kernel)]; kernel_rfl) | (rw [if_neg (by decide +kernel)]; exact ⟨rfl, rfl⟩))
    (fun os started H enc _ => lifted os started H enc)

/-- ████ THE STATEMENT ████ -/
theorem proved : Rows.UnitNearSaid :=
  over
#print axioms proved
end Go.Proofs.Ytoicchmnhpfkfaa.unitNear
