/- UnitWays: for every input the law returns true, and its arguments read behind the call as they did before. No condition. -/
import Derived.Test.YtoicchmnhpfkfaaHead
import Derived.Test.YtoicchmnhpfkfaaRows
import Derived.WalkKit
import Derived.ProofKit
import Derived.OpenShut
namespace Go.Proofs.Ytoicchmnhpfkfaa.unitWays
open Go.ChangeShapes Go.WideShapes Go.ChangeAt Go.RowKit
set_option linter.unusedVariables false      -- a walk need not use every 'w<i>' (that an integer argument fits its kind)

theorem own : ownKnob Try.prog.godebug = none := by kernel_rfl

theorem wf64 {a : Int} (h : (Lit.int .i64 a).wf = true) : -9223372036854775808 ≤ a ∧ a ≤ 9223372036854775807 := by
  simpa [Lit.wf, IntKind.min, IntKind.max, IntKind.signed, IntKind.bits] using h
theorem wfu8 {a : Int} (h : (Lit.int .u8 a).wf = true) : 0 ≤ a ∧ a ≤ 255 := by
  simpa [Lit.wf, IntKind.min, IntKind.max, IntKind.signed, IntKind.bits] using h

theorem fits_is (s : Int) (h1 : -4611686018427387904 ≤ s) (h2 : s ≤ 4611686018427387904) : fitV s = s ∧ fitE s = 0 := by
  unfold fitV fitE
  rw [if_pos ⟨h1, h2⟩, if_pos ⟨h1, h2⟩]
  exact ⟨rfl, rfl⟩

set_option maxHeartbeats 1000000 in
theorem walk_out (x s a2 : Int) (w : World) (h : s < 1 ∨ 1099511627776 < s ∨ 1125899906842624 < x ∨ x < -1125899906842624) :
    Calls Try.prog 8 #[.int .i64 x, .int .i64 s, .int .u8 a2] w fun e w' => e = .returned (.bool true) ∧ Kept w w' := by
  by_cases h1 : s < 1
  · go_enter Try.func8, Try.ntmps8
    go_wp2_with fail
    refine (head_any _).mono ?_
    rintro e w1 ⟨rfl, g1⟩
    go_wp2_with fail
    go_ret
    exact ⟨rfl, g1⟩
  · by_cases h2 : 1099511627776 < s
    · go_enter Try.func8, Try.ntmps8
      go_wp2_with fail
      refine (head_any _).mono ?_
      rintro e w1 ⟨rfl, g1⟩
      go_wp2_with fail
      go_ret
      exact ⟨rfl, g1⟩
    · by_cases h3 : 1125899906842624 < x
      · go_enter Try.func8, Try.ntmps8
        go_wp2_with fail
        refine (head_any _).mono ?_
        rintro e w1 ⟨rfl, g1⟩
        go_wp2_with fail
        go_ret
        exact ⟨rfl, g1⟩
      · have h4 : x < -1125899906842624 := by omega
        go_enter Try.func8, Try.ntmps8
        go_wp2_with fail
        refine (head_any _).mono ?_
        rintro e w1 ⟨rfl, g1⟩
        go_wp2_with fail
        go_ret
        exact ⟨rfl, g1⟩

theorem stop_ok (x s v : Int) (hx : -4503599627370496 ≤ x ∧ x ≤ 4503599627370496) (hs : 1 ≤ s ∧ s ≤ 1099511627776) (hv : x + s - x % s = v) (w : World) :
    Calls Try.prog 18 #[.int .i64 x, .int .i64 s] w fun r w' => r = .returned (.tuple #[.int .i64 v, .int .i64 0]) ∧ Kept w w' := by
  have h1 := Int.emod_nonneg x (show s ≠ 0 by omega)
  have h2 := Int.emod_lt_of_pos x (show 0 < s by omega)
  have f := fits_is (x + s - x % s) (by omega) (by omega)
  exact stop_at x s v 0 (by omega) (by omega) (by rw [f.1, hv]) f.2 w

theorem before (T s : Int) (hs : 1 ≤ s) (h : T % s = 0) : T - 1 + s - (T - 1) % s = T := by
  have hd := Int.emod_add_mul_ediv T s
  rw [h] at hd
  have : T - 1 = (s - 1) + s * (T / s - 1) := by rw [Int.mul_sub]; omega
  have e : (T - 1) % s = s - 1 := by
    rw [this, Int.add_mul_emod_self_left, Int.emod_eq_of_lt (by omega) (by omega)]
  omega

set_option maxRecDepth 100000 in
set_option maxHeartbeats 2000000 in
theorem walk_main (x s a2 : Int) (w : World) (w2 : 0 ≤ a2 ∧ a2 ≤ 255) (h1 : 1 ≤ s) (h2 : s ≤ 1099511627776) (h3 : x ≤ 1125899906842624) (h4 : -1125899906842624 ≤ x) :
    Calls Try.prog 8 #[.int .i64 x, .int .i64 s, .int .u8 a2] w fun e w' => e = .returned (.bool true) ∧ Kept w w' := by
  obtain ⟨M, hM, hM2⟩ : ∃ M : Nat, a2 % 200 = (M : Int) ∧ M ≤ 199 := ⟨(a2 % 200).toNat, by omega, by omega⟩
  have hmod := Int.emod_nonneg x (show s ≠ 0 by omega)
  have hmod2 := Int.emod_lt_of_pos x (show 0 < s by omega)
  obtain ⟨A, HA, hA1, hA2, HA0⟩ : ∃ A : Int, Hid (x + s - x % s = A) ∧ x < A ∧ A ≤ x + s ∧ Hid (A % s = 0) :=
    ⟨x + s - x % s, rfl, by omega, by omega, by
      have hd := Int.emod_add_mul_ediv x s
      show (x + s - x % s) % s = 0
      have : x + s - x % s = s * (x / s + 1) := by rw [Int.mul_add]; omega
      rw [this, Int.mul_emod_right]⟩
  have hp : 0 ≤ (M : Int) * s ∧ (M : Int) * s ≤ 199 * 1099511627776 := ⟨Int.mul_nonneg (by omega) (by omega), Int.mul_le_mul (by omega) (by omega) (by omega) (by omega)⟩
  obtain ⟨m, HM, hm0, hm1, hmw⟩ : ∃ m : Int, Hid ((M : Int) * s = m) ∧ 0 ≤ m ∧ m ≤ 218802813927424 ∧ wrap64 ((M : Int) * s) = m := ⟨(M : Int) * s, rfl, hp.1, by omega, IntWalk.wrap64_in _ (by omega)⟩
  clear hp hmod hmod2
  go_enter Try.func8, Try.ntmps8
  go_wp2_with fail
  refine (stop_ok x s A (by omega) (by omega) HA.out _).mono ?_
  rintro e w1 ⟨rfl, g1⟩
  go_wp2_with fail
  go_loopg [7, 10] M (fun g t i wx => Kept w wx ∧ ∃ (k : Nat) (T : Int), t = .int .i64 T ∧ i = .int .i64 k ∧ k ≤ M ∧ g = M - k ∧ -1125899906842624 ≤ T ∧ T ≤ 1125899906842624 + 1099511627776 + k * 1099511627776 ∧ Hid (T % s = 0) ∧ Hid (T = A + k * s))
  case atStart => exact ⟨g1, 0, A, rfl, rfl, by omega, rfl, by omega, by omega, HA0, by show _ = _; simp⟩
  case round =>
    obtain ⟨gw, k, T, rfl, rfl, hk, rfl, hT1, hT2, HT0, HT⟩ := hrel
    by_cases hlt : k < M
    · go_wp2_with fail
      refine (stop_ok T s (T + s) (by omega) (by omega) (by rw [HT0.out]; omega) _).mono ?_
      rintro e w1 ⟨rfl, g2⟩
      go_wp2_with fail
      go_roundg (M - (k + 1))
      case measure => omega
      case rel => exact ⟨kept_trans gw g2, k + 1, T + s, rfl, by go_num, by omega, rfl, by omega, by omega, by show _ = _; rw [Int.add_emod_right]; exact HT0.out, by show _ = _; rw [HT.out, Int.natCast_add, Int.add_mul]; omega⟩
    · obtain rfl : T = A + m := by rw [HT.out, ← HM.out, show k = M by omega]
      go_wp2_with fail
      refine (stop_ok (A + m - 1) s (A + m) (by omega) (by omega) (before _ _ h1 HT0.out) _).mono ?_
      rintro e w1 ⟨rfl, g2⟩
      go_wp2_with fail
      refine (head_any _).mono ?_
      rintro e w1 ⟨rfl, g3⟩
      go_wp2_with fail
      go_ret
      exact ⟨by simp, kept_trans gw (kept_trans g2 g3)⟩

theorem walk (a0 : Int) (a1 : Int) (a2 : Int) (w0 : (Lit.int .i64 a0).wf = true) (w1 : (Lit.int .i64 a1).wf = true) (w2 : (Lit.int .u8 a2).wf = true) (w : World) :
    Calls Try.prog 8 #[.int .i64 a0, .int .i64 a1, .int .u8 a2] w fun e w' => e = .returned (.bool true) ∧ Kept w w' := by
  by_cases h : a1 < 1 ∨ 1099511627776 < a1 ∨ 1125899906842624 < a0 ∨ a0 < -1125899906842624
  · exact walk_out a0 a1 a2 w h
  · exact walk_main a0 a1 a2 w (wfu8 w2) (by omega) (by omega) (by omega) (by omega)

/-! ### THE ROW's STEP: WRITTEN OUT: LEAVE IT -/
set_option maxRecDepth 100000 in
theorem lifted (os : Os) (started : os.Started) (H : Type) (enc : TypeId × Value → H) :
    ReturnsInHanded {} Try.checked os 8 .any (Rows.unitWaysSpec.pre6 enc Try.prog Try.f8 Rows.unitWaysRow.domain false) (Rows.unitWaysSpec.post enc Try.prog Try.f8 false true false false) := by
  refine returnsInHanded_of_change (C := Try.checked) own started (by kernel_rfl) Try.func8
    (ChangeSpec.witness6 (enc := enc) (C := Try.checked) false ⟨#[], #[.int .i64 0, .int .i64 0, .int .u8 0], []⟩ 8 (by kernel_rfl) (by kernel_rfl) (by kernel_rfl) (by kernel_rfl)) ?_
  intro W base args ds gs before hval0 hW hcnd _
  have hval : ∀ (j : Nat) t v, Try.f8.params[j]? = some t → args[j]? = some v → Value.okWide Try.prog W .any base t v := hval0
  have hW' := hW
  obtain ⟨p, q, hA0, hV, rfl, hfz, hnd⟩ := hW
  have hA : DataW.TrodAll enc Try.prog W 0 (fun _ => true) true Try.f8.params.toList args.toList ds p := hA0
  rw [Try.params8] at hA hval
  obtain ⟨v0, vs0, d0, ds0, p0, q0, hargs, rfl, rfl, h0, r0⟩ := trodAll_cons hA
  obtain ⟨v1, vs1, d1, ds1, p1, q1, rfl, rfl, rfl, h1, r1⟩ := trodAll_cons r0
  obtain ⟨v2, vs2, d2, ds2, p2, q2, rfl, rfl, rfl, h2, r2⟩ := trodAll_cons r1
  obtain ⟨rfl, rfl, rfl⟩ := trodAll_nil r2
  obtain rfl : args = #[v0, v1, v2] := by cases args; simp_all
  obtain ⟨rfl, rfl⟩ := trodVars_none hV
  obtain ⟨a0, rfl, rfl, rfl, w0⟩ := open_int Try.underlying2 (hval 0 2 v0 rfl rfl) h0
  obtain ⟨a1, rfl, rfl, rfl, w1⟩ := open_int Try.underlying2 (hval 1 2 v1 rfl rfl) h1
  obtain ⟨a2, rfl, rfl, rfl, w2⟩ := open_int Try.underlying5 (hval 2 5 v2 rfl rfl) h2
  clear hA0 hval0
  simp only [List.append_nil] at hW'
  refine (walk a0 a1 a2 w0 w1 w2 W).mono fun e W' ⟨he, hg⟩ => ?_
  subst he
  exact ⟨_, rfl, post_of_same (pa := []) (pv := []) hW' (fun _ _ _ => (trodAll_cons_mk (shut_bool Try.underlying4 _) trodAll_mk0)) (fun sp _ => (trodAll_cons_mk (shut_int Try.underlying2 w0) (trodAll_cons_mk (shut_int Try.underlying2 w1) (trodAll_cons_mk (shut_int Try.underlying5 w2) trodAll_mk0)))) (fun _ _ => rfl) rfl
    (hg.frame _) hg.2.1 (ok_one (by kernel_rfl) rfl (okWide_bool_mk Try.underlying4 _))⟩

theorem over : Rows.unitWaysRow.holds Try.pinned (OpenSpec.ofChange Rows.unitWaysSpec) :=
  OpenClaim.holds_of_wide 8 Try.f8 rfl rfl rfl rfl rfl rfl rfl ⟨rfl, rfl, rfl, rfl, rfl⟩ rfl rfl rfl rfl rfl (by kernel_rfl) Try.func8 (by kernel_rfl)
    (of_decide_eq_true (by kernel_rfl)) (by unfold Func.isWrapper; first | (rw [if_pos (by decide +kernel)]; kernel_rfl) | (rw [if_neg (by decide +kernel)]; exact ⟨rfl, rfl⟩))
    (fun os started H enc _ => lifted os started H enc)

/-- ████ THE STATEMENT ████ -/
theorem proved : Rows.UnitWaysSaid :=
  over
#print axioms proved
end Go.Proofs.Ytoicchmnhpfkfaa.unitWays
