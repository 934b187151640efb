/- ClassOnce: for every input the law returns true, and its arguments read behind the call as they did before. No condition on the input; the package variable that the program's text lays (the table of wide ranges) is as it was laid (the card ties it to the text). -/
import Derived.Test.YtgmdechhghbmpaaDoorCLaid
namespace Go.Proofs.YtgmdechhghbmpaaDoor.classOnce
open Go.ChangeShapes Go.WideShapes Go.ChangeAt Go.RowKit
open Go.ChangeMaps (open_string shut_string)
set_option linter.unusedVariables false      -- a walk need not use every 'w<i>' (that an argument fits its kind)

set_option maxRecDepth 100000 in
set_option maxHeartbeats 1000000 in
theorem walk_none (r : Int) (w : World) (hT : Tab w) (hm : many rrows r = 0) (hc : clsOf r = 0) :
    Calls Tryd.prog 6 #[.int .i32 r] w fun e w' => e = .returned (.bool true) ∧ Below w.heap.size w w' := by
  have h9 : (clsOf r == 9) = false := by rw [hc]; rfl
  have P1 : Hid (∀ w, Calls Tryd.prog 16 #[.int .i32 r] w fun e w' => e = .returned (.int .i64 0) ∧ Below w.heap.size w w') := fun w => by
    have := rmany_any r w
    rw [hm] at this
    exact this
  have P2 : Hid (∀ w, Calls Tryd.prog 7 #[.int .i32 r] w fun e w' => e = .returned (.int .u8 0) ∧ Below w.heap.size w w') := fun w => by
    have := cof_any r w
    rw [hc] at this
    exact this
  have P3 : Hid (∀ w, Calls Tryd.prog 9 #[.int .i32 r] w fun e w' => e = .returned (.bool false) ∧ Below w.heap.size w w') := fun w => cmark_any r w _ h9
  clear hm hc h9
  go_enter Tryd.func6, Tryd.ntmps6
  go_wp2_with fail
  refine (P1.out _).mono ?_
  rintro e w1 ⟨rfl, b1⟩
  go_wp2_with fail
  refine (P2.out _).mono ?_
  rintro e w2 ⟨rfl, b2⟩
  go_wp2_with fail
  refine (P3.out _).mono ?_
  rintro e w3 ⟨rfl, b3⟩
  go_wp2_with fail
  refine (chead_any _ (((hT.below b1).below b2).below b3)).mono ?_
  rintro e w4 ⟨rfl, b4⟩
  go_wp2_with fail
  go_ret
  exact ⟨rfl, (below_seq b1 (below_seq b2 (below_seq b3 b4)))⟩

set_option maxRecDepth 100000 in
set_option maxHeartbeats 1000000 in
theorem walk_plain (r : Int) (w : World) (hT : Tab w) (hm : many rrows r = 1) (h9 : (clsOf r == 9) = false) :
    Calls Tryd.prog 6 #[.int .i32 r] w fun e w' => e = .returned (.bool true) ∧ Below w.heap.size w w' := by
  have P1 : Hid (∀ w, Calls Tryd.prog 16 #[.int .i32 r] w fun e w' => e = .returned (.int .i64 1) ∧ Below w.heap.size w w') := fun w => by
    have := rmany_any r w
    rw [hm] at this
    exact this
  have P3 : Hid (∀ w, Calls Tryd.prog 9 #[.int .i32 r] w fun e w' => e = .returned (.bool false) ∧ Below w.heap.size w w') := fun w => cmark_any r w _ h9
  clear hm h9
  go_enter Tryd.func6, Tryd.ntmps6
  go_wp2_with fail
  refine (P1.out _).mono ?_
  rintro e w1 ⟨rfl, b1⟩
  go_wp2_with fail
  refine (P3.out _).mono ?_
  rintro e w2 ⟨rfl, b2⟩
  go_wp2_with fail
  refine (chead_any _ ((hT.below b1).below b2)).mono ?_
  rintro e w3 ⟨rfl, b3⟩
  go_wp2_with fail
  go_ret
  exact ⟨rfl, (below_seq b1 (below_seq b2 b3))⟩

set_option maxRecDepth 100000 in
set_option maxHeartbeats 1000000 in
theorem walk_thin (r : Int) (w : World) (hT : Tab w) (hm : many rrows r = 1) (h9 : (clsOf r == 9) = true) (hb : wideB r = false) :
    Calls Tryd.prog 6 #[.int .i32 r] w fun e w' => e = .returned (.bool true) ∧ Below w.heap.size w w' := by
  have P1 : Hid (∀ w, Calls Tryd.prog 16 #[.int .i32 r] w fun e w' => e = .returned (.int .i64 1) ∧ Below w.heap.size w w') := fun w => by
    have := rmany_any r w
    rw [hm] at this
    exact this
  have P3 : Hid (∀ w, Calls Tryd.prog 9 #[.int .i32 r] w fun e w' => e = .returned (.bool true) ∧ Below w.heap.size w w') := fun w => cmark_any r w _ h9
  have P4 : Hid (∀ w, Tab w → Calls Tryd.prog 10 #[.int .i32 r] w fun e w' => e = .returned (.bool false) ∧ Below w.heap.size w w') := fun w h => cwide_is r w h _ hb
  clear hm h9 hb
  go_enter Tryd.func6, Tryd.ntmps6
  go_wp2_with fail
  refine (P1.out _).mono ?_
  rintro e w1 ⟨rfl, b1⟩
  go_wp2_with fail
  refine (P3.out _).mono ?_
  rintro e w2 ⟨rfl, b2⟩
  go_wp2_with fail
  refine (P4.out _ ((hT.below b1).below b2)).mono ?_
  rintro e w3 ⟨rfl, b3⟩
  go_wp2_with fail
  refine (chead_any _ (((hT.below b1).below b2).below b3)).mono ?_
  rintro e w4 ⟨rfl, b4⟩
  go_wp2_with fail
  go_ret
  exact ⟨rfl, (below_seq b1 (below_seq b2 (below_seq b3 b4)))⟩

set_option maxRecDepth 100000 in
set_option maxHeartbeats 1000000 in
theorem walk_first (r : Int) (w : World) (hT : Tab w) (hm : many rrows r = 1) (h9 : (clsOf r == 9) = true) (hb : wideB r = true) (h1 : 12330 ≤ r) (h2 : r ≤ 12335) :
    Calls Tryd.prog 6 #[.int .i32 r] w fun e w' => e = .returned (.bool true) ∧ Below w.heap.size w w' := by
  have P1 : Hid (∀ w, Calls Tryd.prog 16 #[.int .i32 r] w fun e w' => e = .returned (.int .i64 1) ∧ Below w.heap.size w w') := fun w => by
    have := rmany_any r w
    rw [hm] at this
    exact this
  have P3 : Hid (∀ w, Calls Tryd.prog 9 #[.int .i32 r] w fun e w' => e = .returned (.bool true) ∧ Below w.heap.size w w') := fun w => cmark_any r w _ h9
  have P4 : Hid (∀ w, Tab w → Calls Tryd.prog 10 #[.int .i32 r] w fun e w' => e = .returned (.bool true) ∧ Below w.heap.size w w') := fun w h => cwide_is r w h _ hb
  clear hm h9 hb
  go_enter Tryd.func6, Tryd.ntmps6
  go_wp2_with fail
  refine (P1.out _).mono ?_
  rintro e w1 ⟨rfl, b1⟩
  go_wp2_with fail
  refine (P3.out _).mono ?_
  rintro e w2 ⟨rfl, b2⟩
  go_wp2_with fail
  refine (P4.out _ ((hT.below b1).below b2)).mono ?_
  rintro e w3 ⟨rfl, b3⟩
  go_wp2_with fail
  refine (chead_any _ (((hT.below b1).below b2).below b3)).mono ?_
  rintro e w4 ⟨rfl, b4⟩
  go_wp2_with fail
  go_ret
  exact ⟨rfl, (below_seq b1 (below_seq b2 (below_seq b3 b4)))⟩

set_option maxRecDepth 100000 in
set_option maxHeartbeats 1000000 in
theorem walk_second (r : Int) (w : World) (hT : Tab w) (hm : many rrows r = 1) (h9 : (clsOf r == 9) = true) (hb : wideB r = true) (h1 : 12441 ≤ r) (h2 : r ≤ 12442) :
    Calls Tryd.prog 6 #[.int .i32 r] w fun e w' => e = .returned (.bool true) ∧ Below w.heap.size w w' := by
  have P1 : Hid (∀ w, Calls Tryd.prog 16 #[.int .i32 r] w fun e w' => e = .returned (.int .i64 1) ∧ Below w.heap.size w w') := fun w => by
    have := rmany_any r w
    rw [hm] at this
    exact this
  have P3 : Hid (∀ w, Calls Tryd.prog 9 #[.int .i32 r] w fun e w' => e = .returned (.bool true) ∧ Below w.heap.size w w') := fun w => cmark_any r w _ h9
  have P4 : Hid (∀ w, Tab w → Calls Tryd.prog 10 #[.int .i32 r] w fun e w' => e = .returned (.bool true) ∧ Below w.heap.size w w') := fun w h => cwide_is r w h _ hb
  clear hm h9 hb
  go_enter Tryd.func6, Tryd.ntmps6
  go_wp2_with fail
  refine (P1.out _).mono ?_
  rintro e w1 ⟨rfl, b1⟩
  go_wp2_with fail
  refine (P3.out _).mono ?_
  rintro e w2 ⟨rfl, b2⟩
  go_wp2_with fail
  refine (P4.out _ ((hT.below b1).below b2)).mono ?_
  rintro e w3 ⟨rfl, b3⟩
  go_wp2_with fail
  refine (chead_any _ (((hT.below b1).below b2).below b3)).mono ?_
  rintro e w4 ⟨rfl, b4⟩
  go_wp2_with fail
  go_ret
  exact ⟨rfl, (below_seq b1 (below_seq b2 (below_seq b3 b4)))⟩

theorem walk (r : Int) (w : World) (hT : Tab w) :
    Calls Tryd.prog 6 #[.int .i32 r] w fun e w' => e = .returned (.bool true) ∧ Below w.heap.size w w' := by
  have hle := many_le r
  by_cases hm : many rrows r = 1
  · by_cases h9 : clsOf r = 9
    · have h9' : (clsOf r == 9) = true := by rw [h9]; rfl
      by_cases hb : wideB r = true
      · rcases mark_wide r h9 hb with ⟨h1, h2⟩ | ⟨h1, h2⟩
        · exact walk_first r w hT hm h9' hb h1 h2
        · exact walk_second r w hT hm h9' hb h1 h2
      · exact walk_thin r w hT hm h9' (by simpa using hb)
    · exact walk_plain r w hT hm (by simpa using h9)
  · exact walk_none r w hT (by omega) (many_zero r hm)

/-! ### THE ROW's STEP -/

theorem laidOut : laidOutB Tryd.prog = true := by kernel_rfl
theorem laid_met (os : Os) : laidMet Tryd.prog Rows.classOnceRow.laid ((laidWorld os).forCall (fun _ _ => 0) ⟨#[], #[.int .i32 0], []⟩).memory :=
  laidMet_of_run' 8 (by kernel_rfl) (by kernel_rfl)
theorem reads (os : Os) {H : Type} (enc : TypeId × Value → H) : ∃ places, DataW.whole enc Tryd.prog ((laidWorld os).forCall (fun _ _ => 0) ⟨#[], #[.int .i32 0], []⟩).memory Tryd.f6.params.toList Rows.classOnceSpec.vars false (#[.int .i32 0] : Array Value).toList 8 = some ([.lit (.int .i32 0)], [], places) :=
  ⟨[], by kernel_rfl⟩

set_option maxRecDepth 100000 in
theorem lifted (os : Os) (started : os.Started) (H : Type) (enc : TypeId × Value → H) (F : Stop.Interp) :
    ReturnsInHanded {} Tryd.checked os 6 .any ((OpenSpec.ofChange Rows.classOnceSpec).preRow enc Tryd.prog Tryd.f6 Rows.classOnceRow.domain false Rows.classOnceRow.laid) (((OpenSpec.ofChange Rows.classOnceSpec).at F).post enc Tryd.prog Tryd.f6 false true false false) := by
  obtain ⟨places, hx⟩ := reads os enc
  refine returnsInHanded_of_row (C := Tryd.checked) (s := OpenSpec.ofChange Rows.classOnceSpec) own started (by kernel_rfl) Tryd.func6
    (witness_row_at (enc := enc) (C := Tryd.checked) false (laidWorld os) #[.int .i32 0] rfl (by kernel_rfl) (by kernel_rfl) (by kernel_rfl)
      (OpenSpec.preRow_of_cond 8 hx (by kernel_rfl) (fun k hk => by cases hk) (by kernel_rfl) (laid_met os))) ?_
  intro W base args ds gs before hval0 hW _ _ _ hL _ _
  have hval : ∀ (j : Nat) t v, Tryd.f6.params[j]? = some t → args[j]? = some v → Value.okWide Tryd.prog W .any base t v := hval0
  have hW' := hW
  obtain ⟨p, q, hA0, hV, rfl, hfz, hnd⟩ := hW
  have hA : DataW.TrodAll enc Tryd.prog W 0 (fun _ => true) true Tryd.f6.params.toList args.toList ds p := hA0
  rw [Tryd.params6] at hA hval
  obtain ⟨v0, vs0, d0, ds0, p0, q0, hargs, rfl, rfl, h0, r0⟩ := trodAll_cons hA
  obtain ⟨rfl, rfl, rfl⟩ := trodAll_nil r0
  obtain rfl : args = #[v0] := by cases args; simp_all
  obtain ⟨rfl, rfl⟩ := trodVars_none hV
  have k0 := h0
  have lt0 : ∀ x ∈ p0, x.block < W.heap.size := by obtain ⟨m, hm⟩ := k0; exact DataW.trod_lt m _ _ _ hm
  obtain ⟨a0, rfl, rfl, rfl, w0⟩ := open_int Tryd.underlying21 (hval 0 21 v0 rfl rfl) h0
  clear hA0 hval0
  refine (walk a0 W (tab_of hL)).mono fun e W' ⟨he, bel⟩ => ?_
  subst he
  exact ⟨_, rfl, _, _, _, [], _, [], hW', trodAll_mk1 (shut_bool Tryd.underlying4 _), (trodAll_cons_mk (Below.trod laidOut (by kernel_rfl) (of_decide_eq_true (by kernel_rfl)) k0 bel lt0) trodAll_mk0), rfl, bel.frame _, fun h => by cases h⟩

theorem said : Rows.ClassOnceSaid :=
  OpenClaim.holds_of_cond 6 Tryd.f6 rfl rfl rfl rfl rfl rfl rfl ⟨rfl, rfl, rfl, rfl, rfl⟩ rfl rfl rfl rfl rfl (by kernel_rfl) Tryd.func6 (by kernel_rfl)
    (of_decide_eq_true (by kernel_rfl)) (by unfold Func.isWrapper; first | (rw [if_pos (by decide +kernel)]; kernel_rfl) | (rw [if_neg (by decide +kernel)]; exact ⟨rfl, rfl⟩))
    (fun os started H enc _ F => by rw [OpenClaim.pre_eq_preRow]; exact lifted os started H enc F)

/-- no parameter wants a stand-in; the program's own looks are off -/
theorem plain (f : FuncId) (fn : Func) (hf : Tryd.pinned.checked.prog.funcNamed "stickful/stickfullaw04.ClassOnce" = some f) (hfn : Tryd.pinned.checked.prog.funcs[f]? = some fn) :
    false = Tryd.pinned.checked.prog.looks [] ∧ ∀ (j : Nat) t, fn.params[j]? = some t → Tryd.pinned.checked.prog.wantsStandIn t = false := by
  obtain rfl : f = 6 := Option.some.inj ((show Tryd.prog.funcNamed "stickful/stickfullaw04.ClassOnce" = some 6 by kernel_rfl).symm.trans hf) |>.symm
  obtain rfl : fn = Tryd.f6 := (Option.some.inj (Tryd.func6.symm.trans hfn)).symm
  refine ⟨by kernel_rfl, fun j t ht => ?_⟩
  rw [Tryd.params6] at ht
  have hm : t ∈ [21] := by simpa using Array.mem_of_getElem? ht
  have hall : ([21].all fun u => !Tryd.prog.wantsStandIn u) = true := by kernel_rfl
  exact (show Tryd.prog.wantsStandIn t = false by simpa using List.all_eq_true.1 hall t hm)

/-- ████ THE STATEMENT: THE TIED CARD ████ -/
theorem card : Rows.ClassOnceCardSaid :=
  Claim7.holds_tied_plain_at .later [] _ _ _ _ said (fun _ h => by cases h) (by kernel_rfl) (fun _ h => by cases h) classOnce_row_tie rfl ⟨rfl, rfl⟩ (by kernel_rfl) rfl plain (by kernel_rfl)
#print axioms card
end Go.Proofs.YtgmdechhghbmpaaDoor.classOnce
