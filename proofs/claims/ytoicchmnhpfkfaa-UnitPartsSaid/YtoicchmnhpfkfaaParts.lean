/- UnitParts: for every input the law returns true, and its arguments read behind the call as they did before. No condition. -/
import Derived.Test.YtoicchmnhpfkfaaRefA
import Derived.Test.YtoicchmnhpfkfaaRows
import Derived.WalkKit
import Derived.ProofKit
import Derived.OpenShut
namespace Go.Proofs.Ytoicchmnhpfkfaa.unitParts
open Go.ChangeShapes Go.WideShapes Go.ChangeAt Go.RowKit
set_option linter.unusedVariables false      -- a walk need not use every 'w<i>' (that an integer argument fits its kind)

theorem own : ownKnob Try.prog.godebug = none := by kernel_rfl

theorem halves_at (n c d : Int) (w : World) (hn : -9223372036854775808 ≤ n ∧ n ≤ 9223372036854775807) (h1 : n / 2 = c) (h2 : n - n / 2 = d) :
    Calls Try.prog 16 #[.int .i64 n] w fun e w' => e = .returned (.tuple #[.int .i64 c, .int .i64 d]) ∧ w = w' := by
  subst h1; subst h2
  exact halves_any n w hn.1 hn.2
theorem rhalves_at (n c d : Int) (w : World) (hn : -9223372036854775808 ≤ n ∧ n ≤ 9223372036854775807) (h1 : n / 2 = c) (h2 : n - n / 2 = d) :
    Calls Try.prog 17 #[.int .i64 n] w fun e w' => e = .returned (.tuple #[.int .i64 c, .int .i64 d]) ∧ w = w' := by
  subst h1; subst h2
  exact rhalves_any n w hn.1 hn.2

/-- what the program's and the document's Stop give together -/
theorem stops (n s v e : Int) (hn : -9223372036854775808 ≤ n ∧ n ≤ 9223372036854775807) (hs : -9223372036854775808 ≤ s ∧ s ≤ 9223372036854775807) (h : (s < 1 ∧ v = 0 ∧ e = 2) ∨ (1 ≤ s ∧ v = fitV (n + s - n % s) ∧ e = fitE (n + s - n % s))) :
    (∀ w, Calls Try.prog 18 #[.int .i64 n, .int .i64 s] w fun r w' => r = .returned (.tuple #[.int .i64 v, .int .i64 e]) ∧ Kept w w') ∧
    (∀ w, Calls Try.prog 19 #[.int .i64 n, .int .i64 s] w fun r w' => r = .returned (.tuple #[.int .i64 v, .int .i64 e]) ∧ Kept w w') := by
  rcases h with ⟨h1, rfl, rfl⟩ | ⟨h1, rfl, rfl⟩
  · exact ⟨fun w => stop_arg n s w h1, fun w => rstop_arg n s w h1⟩
  · exact ⟨fun w => stop_any n s w hn (by omega), fun w => rstop_any n s w hn (by omega)⟩

def Half (n c d : Int) : Prop := n / 2 = c ∧ n - n / 2 = d

def Halved (n c d : Int) : Prop := ((c + d == n) = true ∧ (c + d != n) = false) ∧ (((d == c) = true ∧ (d != c) = false) ∨ ((d == c) = false ∧ (d != c) = true ∧ (d == c + 1) = true ∧ (d != c + 1) = false))
theorem halved (n : Int) : ∃ c d : Int, Half n c d ∧ (2 * c ≤ n ∧ n ≤ 2 * c + 1) ∧ (c ≤ d ∧ d ≤ c + 1) ∧ Halved n c d := by
  refine ⟨n / 2, n - n / 2, ⟨rfl, rfl⟩, by omega, by omega, ?_⟩
  unfold Halved
  by_cases h : n % 2 = 0
  · exact ⟨⟨by simp; omega, by simp; omega⟩, Or.inl ⟨by simp; omega, by simp; omega⟩⟩
  · exact ⟨⟨by simp; omega, by simp; omega⟩, Or.inr ⟨by simp; omega, by simp; omega, by simp; omega, by simp; omega⟩⟩

set_option maxRecDepth 100000 in
set_option maxHeartbeats 2000000 in
theorem none_any (n s v e c d : Int) (w : World) (hn : -9223372036854775808 ≤ n ∧ n ≤ 9223372036854775807) (C : Hid (Half n c d)) (hc1 : 2 * c ≤ n ∧ n ≤ 2 * c + 1) (hd1 : c ≤ d ∧ d ≤ c + 1) (hh : Halved n c d)
    (S1 : Hid (∀ w, Calls Try.prog 18 #[.int .i64 n, .int .i64 s] w fun r w' => r = .returned (.tuple #[.int .i64 v, .int .i64 e]) ∧ Kept w w'))
    (S2 : Hid (∀ w, Calls Try.prog 19 #[.int .i64 n, .int .i64 s] w fun r w' => r = .returned (.tuple #[.int .i64 v, .int .i64 e]) ∧ Kept w w'))
    (v0 : v = 0) (e1 : (e == 0) = false) (e2 : (e != 0) = true) :
    Calls Try.prog 5 #[.int .i64 n, .int .i64 s] w fun e w' => e = .returned (.bool true) ∧ Kept w w' := by
  subst v0
  unfold Halved at hh
  obtain ⟨⟨x1, x2⟩, ⟨x3, x4⟩ | ⟨x3, x4, x5, x6⟩⟩ := hh
  all_goals
    go_enter Try.func5, Try.ntmps5
    go_wp2_with fail
    refine (halves_at n c d _ hn C.out.1 C.out.2).mono ?_
    rintro r w1 ⟨rfl, rfl⟩
    go_wp2_with fail
    refine (rhalves_at n c d _ hn C.out.1 C.out.2).mono ?_
    rintro r w1 ⟨rfl, rfl⟩
    go_wp2_with fail
    refine (S1.out _).mono ?_
    rintro r w1 ⟨rfl, g1⟩
    go_wp2_with fail
    refine (S2.out _).mono ?_
    rintro r w2 ⟨rfl, g2⟩
    go_wp2_with fail
    refine (head_any _).mono ?_
    rintro r w3 ⟨rfl, g3⟩
    go_wp2_with fail
    go_ret
    exact ⟨by simp, kept_trans g1 (kept_trans g2 g3)⟩

set_option maxRecDepth 100000 in
set_option maxHeartbeats 4000000 in
theorem some_any (n s v c d x g : Int) (w : World) (hn : -9223372036854775808 ≤ n ∧ n ≤ 9223372036854775807) (hs : 1 ≤ s ∧ s ≤ 9223372036854775807) (C : Hid (Half n c d)) (hc1 : 2 * c ≤ n ∧ n ≤ 2 * c + 1) (hd1 : c ≤ d ∧ d ≤ c + 1) (hh : Halved n c d)
    (S1 : Hid (∀ w, Calls Try.prog 18 #[.int .i64 n, .int .i64 s] w fun r w' => r = .returned (.tuple #[.int .i64 v, .int .i64 0]) ∧ Kept w w'))
    (S2 : Hid (∀ w, Calls Try.prog 19 #[.int .i64 n, .int .i64 s] w fun r w' => r = .returned (.tuple #[.int .i64 v, .int .i64 0]) ∧ Kept w w'))
    (S3 : Hid (∀ w, Calls Try.prog 18 #[.int .i64 v, .int .i64 s] w fun r w' => r = .returned (.tuple #[.int .i64 x, .int .i64 g]) ∧ Kept w w'))
    (hv : n < v ∧ v - s ≤ n ∧ -9223372036854775808 ≤ v - s ∧ -4611686018427387904 ≤ v ∧ v ≤ 4611686018427387904) (hm : v.tmod s = 0) (hm2 : v % s = 0)
    (hg : ((g == 0) = false ∧ (g != 0) = true) ∨ ((g == 0) = true ∧ (g != 0) = false ∧ x = v + s ∧ v + s ≤ 4611686018427387904)) :
    Calls Try.prog 5 #[.int .i64 n, .int .i64 s] w fun e w' => e = .returned (.bool true) ∧ Kept w w' := by
  have es : (s == 0) = false := by simp; omega
  unfold Halved at hh
  obtain ⟨⟨x1, x2⟩, ⟨x3, x4⟩ | ⟨x3, x4, x5, x6⟩⟩ := hh <;> obtain ⟨y1, y2⟩ | ⟨y1, y2, rfl, y3⟩ := hg
  all_goals
    go_enter Try.func5, Try.ntmps5
    go_wp2_with fail
    refine (halves_at n c d _ hn C.out.1 C.out.2).mono ?_
    rintro r w1 ⟨rfl, rfl⟩
    go_wp2_with fail
    refine (rhalves_at n c d _ hn C.out.1 C.out.2).mono ?_
    rintro r w1 ⟨rfl, rfl⟩
    go_wp2_with fail
    refine (S1.out _).mono ?_
    rintro r w1 ⟨rfl, g1⟩
    go_wp2_with fail
    refine (S2.out _).mono ?_
    rintro r w2 ⟨rfl, g2⟩
    go_wp2_with fail
    refine (S3.out _).mono ?_
    rintro r w3 ⟨rfl, g3⟩
    go_wp2_with fail
    refine (head_any _).mono ?_
    rintro r w4 ⟨rfl, g4⟩
    go_wp2_with fail
    go_ret
    exact ⟨by simp, kept_trans g1 (kept_trans g2 (kept_trans g3 g4))⟩

theorem stop_facts (n s : Int) (hn : -9223372036854775808 ≤ n ∧ n ≤ 9223372036854775807) (hs : 1 ≤ s ∧ s ≤ 9223372036854775807) (h1 : -4611686018427387904 ≤ n + s - n % s) (h2 : n + s - n % s ≤ 4611686018427387904) :
    n < n + s - n % s ∧ n + s - n % s - s ≤ n ∧ -9223372036854775808 ≤ n + s - n % s - s ∧ (n + s - n % s) % s = 0 ∧ (n + s - n % s).tmod s = 0 := by
  have h3 := Int.emod_nonneg n (show s ≠ 0 by omega)
  have h4 := Int.emod_lt_of_pos n (show 0 < s by omega)
  have hd := Int.emod_add_mul_ediv n s
  have e : n + s - n % s = s * (n / s + 1) := by rw [Int.mul_add]; omega
  have e0 : (n + s - n % s) % s = 0 := by rw [e, Int.mul_emod_right]
  refine ⟨by omega, by omega, ?_, e0, ?_⟩
  · by_cases hb : s ≤ 4611686018427387904
    · omega
    · have hk : n / s + 1 = 0 ∨ 1 ≤ n / s + 1 ∨ n / s + 1 ≤ -1 := by omega
      rcases hk with hk | hk | hk
      · rw [e, hk]; omega
      · have : s * 1 ≤ s * (n / s + 1) := Int.mul_le_mul_of_nonneg_left hk (by omega)
        omega
      · have : s * (n / s + 1) ≤ s * -1 := Int.mul_le_mul_of_nonneg_left hk (by omega)
        omega
  · rw [e, Int.mul_tmod_right]

theorem walk (a0 : Int) (a1 : Int) (w0 : (Lit.int .i64 a0).wf = true) (w1 : (Lit.int .i64 a1).wf = true) (w : World) :
    Calls Try.prog 5 #[.int .i64 a0, .int .i64 a1] w fun e w' => e = .returned (.bool true) ∧ Kept w w' := by
  have hn := wf64 w0
  have hs := wf64 w1
  obtain ⟨c, d, hC, hc1, hd1, hh⟩ := halved a0
  by_cases h : a1 < 1
  · obtain ⟨S1, S2⟩ := stops a0 a1 0 2 hn hs (Or.inl ⟨h, rfl, rfl⟩)
    exact none_any a0 a1 0 2 c d w hn hC hc1 hd1 hh S1 S2 rfl rfl rfl
  · by_cases hf : -4611686018427387904 ≤ a0 + a1 - a0 % a1 ∧ a0 + a1 - a0 % a1 ≤ 4611686018427387904
    · obtain ⟨f1, f2⟩ := fits_is _ hf.1 hf.2
      obtain ⟨q1, q2, q3, q4, q5⟩ := stop_facts a0 a1 hn (by omega) hf.1 hf.2
      obtain ⟨S1, S2⟩ := stops a0 a1 (a0 + a1 - a0 % a1) 0 hn hs (Or.inr ⟨by omega, f1.symm, f2.symm⟩)
      generalize a0 + a1 - a0 % a1 = v at *
      have e3 : v + a1 - v % a1 = v + a1 := by omega
      obtain ⟨S3, _⟩ := stops v a1 (fitV (v + a1)) (fitE (v + a1)) (by omega) hs (Or.inr ⟨by omega, by rw [e3], by rw [e3]⟩)
      refine some_any a0 a1 v c d _ _ w hn (by omega) hC hc1 hd1 hh S1 S2 S3 ⟨q1, q2, q3, hf.1, hf.2⟩ q5 q4 ?_
      by_cases hg : v + a1 ≤ 4611686018427387904
      · obtain ⟨k1, k2⟩ := fits_is (v + a1) (by omega) hg
        rw [k1, k2]
        exact Or.inr ⟨rfl, rfl, rfl, hg⟩
      · left
        have : fitE (v + a1) = 10 := by unfold fitE; rw [if_neg (by omega)]
        rw [this]
        exact ⟨rfl, rfl⟩
    · have k1 : fitV (a0 + a1 - a0 % a1) = 0 := by unfold fitV; rw [if_neg hf]
      have k2 : fitE (a0 + a1 - a0 % a1) = 10 := by unfold fitE; rw [if_neg hf]
      obtain ⟨S1, S2⟩ := stops a0 a1 0 10 hn hs (Or.inr ⟨by omega, k1.symm, k2.symm⟩)
      exact none_any a0 a1 0 10 c d w hn hC hc1 hd1 hh S1 S2 rfl rfl rfl

/-! ### THE ROW's STEP: WRITTEN OUT: LEAVE IT -/
set_option maxRecDepth 100000 in
theorem lifted (os : Os) (started : os.Started) (H : Type) (enc : TypeId × Value → H) :
    ReturnsInHanded {} Try.checked os 5 .any (Rows.unitPartsSpec.pre6 enc Try.prog Try.f5 Rows.unitPartsRow.domain false) (Rows.unitPartsSpec.post enc Try.prog Try.f5 false true false false) := by
  refine returnsInHanded_of_change (C := Try.checked) own started (by kernel_rfl) Try.func5
    (ChangeSpec.witness6 (enc := enc) (C := Try.checked) false ⟨#[], #[.int .i64 0, .int .i64 0], []⟩ 8 (by kernel_rfl) (by kernel_rfl) (by kernel_rfl) (by kernel_rfl)) ?_
  intro W base args ds gs before hval0 hW hcnd _
  have hval : ∀ (j : Nat) t v, Try.f5.params[j]? = some t → args[j]? = some v → Value.okWide Try.prog W .any base t v := hval0
  have hW' := hW
  obtain ⟨p, q, hA0, hV, rfl, hfz, hnd⟩ := hW
  have hA : DataW.TrodAll enc Try.prog W 0 (fun _ => true) true Try.f5.params.toList args.toList ds p := hA0
  rw [Try.params5] at hA hval
  obtain ⟨v0, vs0, d0, ds0, p0, q0, hargs, rfl, rfl, h0, r0⟩ := trodAll_cons hA
  obtain ⟨v1, vs1, d1, ds1, p1, q1, rfl, rfl, rfl, h1, r1⟩ := trodAll_cons r0
  obtain ⟨rfl, rfl, rfl⟩ := trodAll_nil r1
  obtain rfl : args = #[v0, v1] := by cases args; simp_all
  obtain ⟨rfl, rfl⟩ := trodVars_none hV
  obtain ⟨a0, rfl, rfl, rfl, w0⟩ := open_int Try.underlying2 (hval 0 2 v0 rfl rfl) h0
  obtain ⟨a1, rfl, rfl, rfl, w1⟩ := open_int Try.underlying2 (hval 1 2 v1 rfl rfl) h1
  clear hA0 hval0
  simp only [List.append_nil] at hW'
  refine (walk a0 a1 w0 w1 W).mono fun e W' ⟨he, hg⟩ => ?_
  subst he
  exact ⟨_, rfl, post_of_same (pa := []) (pv := []) hW' (fun _ _ _ => (trodAll_cons_mk (shut_bool Try.underlying4 _) trodAll_mk0)) (fun sp _ => (trodAll_cons_mk (shut_int Try.underlying2 w0) (trodAll_cons_mk (shut_int Try.underlying2 w1) trodAll_mk0))) (fun _ _ => rfl) rfl
    (hg.frame _) hg.2.1 (ok_one (by kernel_rfl) rfl (okWide_bool_mk Try.underlying4 _))⟩

theorem over : Rows.unitPartsRow.holds Try.pinned (OpenSpec.ofChange Rows.unitPartsSpec) :=
  OpenClaim.holds_of_wide 5 Try.f5 rfl rfl rfl rfl rfl rfl rfl ⟨rfl, rfl, rfl, rfl, rfl⟩ rfl rfl rfl rfl rfl (by kernel_rfl) Try.func5 (by kernel_rfl)
    (of_decide_eq_true (by kernel_rfl)) (by unfold Func.isWrapper; first | (rw [if_pos (by decide +kernel)]; kernel_rfl) | (rw [if_neg (by decide +kernel)]; exact ⟨rfl, rfl⟩))
    (fun os started H enc _ => lifted os started H enc)

/-- ████ THE STATEMENT ████ -/
theorem proved : Rows.UnitPartsSaid :=
  over
#print axioms proved
end Go.Proofs.Ytoicchmnhpfkfaa.unitParts
