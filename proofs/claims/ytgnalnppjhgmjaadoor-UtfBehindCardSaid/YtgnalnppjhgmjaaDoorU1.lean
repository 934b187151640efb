/- Contracts of the document's answers for layer 2 (package stickfulref02): between, long, may. Conditions: the bytes are bytes. -/
import Derived.Test.YtgnalnppjhgmjaaDoorRows
import Derived.Test.YtgnalnppjhgmjaaDoorUtfMath
import Derived.WalkKit
import Derived.ProofKit
import Derived.OpenShut
import Derived.IntWalk
import Derived.WalkSpells
import Derived.Lib.Hide
namespace Go.Proofs.YtgnalnppjhgmjaaDoor
open Go.ChangeShapes Go.WideShapes Go.ChangeAt Go.RowKit

theorem ret2 {k l : IntKind} {a b c d : Int} (h : a = c) (h' : b = d) : Ending.returned (.tuple #[.int k a, .int l b]) = .returned (.tuple #[.int k c, .int l d]) := by rw [h, h']
theorem ret1 {k : IntKind} {a c : Int} (h : a = c) : Ending.returned (.int k a) = .returned (.int k c) := by rw [h]
theorem retb {a c : Bool} (h : a = c) : Ending.returned (.bool a) = .returned (.bool c) := by rw [h]

set_option maxHeartbeats 400000 in
theorem between_yes (c lo hi : Int) (w : World) (h0 : 0 ≤ c ∧ c ≤ 255) (h1 : lo ≤ c) (h2 : c ≤ hi) :
    Calls Tryd.prog 28 #[.int .u8 c, .int .i64 lo, .int .i64 hi] w fun e w' => e = .returned (.bool true) ∧ w = w' := by
  go_enter Tryd.func28, Tryd.ntmps28
  go_wp2
  go_ret
  exact ⟨retb (by simp), rfl⟩

set_option maxHeartbeats 400000 in
theorem between_no (c lo hi : Int) (w : World) (h0 : 0 ≤ c ∧ c ≤ 255) (h : c < lo ∨ hi < c) :
    Calls Tryd.prog 28 #[.int .u8 c, .int .i64 lo, .int .i64 hi] w fun e w' => e = .returned (.bool false) ∧ w = w' := by
  by_cases h1 : lo ≤ c
  · have h2 : ¬ c ≤ hi := by omega
    clear h
    go_enter Tryd.func28, Tryd.ntmps28
    go_wp2
    go_ret
    exact ⟨retb (by simp), rfl⟩
  · clear h
    go_enter Tryd.func28, Tryd.ntmps28
    go_wp2
    go_ret
    exact ⟨retb (by simp), rfl⟩

theorem between_is (c lo hi : Int) (w : World) (b : Bool) (h0 : 0 ≤ c ∧ c ≤ 255) (h : decide (lo ≤ c ∧ c ≤ hi) = b) :
    Calls Tryd.prog 28 #[.int .u8 c, .int .i64 lo, .int .i64 hi] w fun e w' => e = .returned (.bool b) ∧ w = w' := by
  cases b
  · have := of_decide_eq_false h
    exact between_no c lo hi w h0 (by omega)
  · have := of_decide_eq_true h
    exact between_yes c lo hi w h0 this.1 this.2

set_option maxHeartbeats 1000000 in
theorem long_any (c : Nat) (w : World) (hc : c ≤ 255) :
    Calls Tryd.prog 21 #[.int .u8 c] w fun e w' => e = .returned (.int .i64 (Utf.long c : Nat)) ∧ w = w' := by
  by_cases h1 : c ≤ 127
  · have E : Hid (Utf.long c = 1) := by show _ = _; unfold Utf.long; rw [if_pos h1]
    go_enter Tryd.func21, Tryd.ntmps21
    go_wp2_with fail
    refine (between_yes _ _ _ _ (by omega) (by omega) (by omega)).mono ?_
    rintro e w' ⟨rfl, rfl⟩
    go_wp2_with fail
    go_ret
    exact ⟨ret1 (by rw [E.out]; rfl), rfl⟩
  · by_cases h2 : 194 ≤ c ∧ c ≤ 223
    · have E : Hid (Utf.long c = 2) := by show _ = _; unfold Utf.long; rw [if_neg h1, if_pos h2]
      go_enter Tryd.func21, Tryd.ntmps21
      go_wp2_with fail
      refine (between_no _ _ _ _ (by omega) (by omega)).mono ?_
      rintro e w' ⟨rfl, rfl⟩
      go_wp2_with fail
      refine (between_yes _ _ _ _ (by omega) (by omega) (by omega)).mono ?_
      rintro e w' ⟨rfl, rfl⟩
      go_wp2_with fail
      go_ret
      exact ⟨ret1 (by rw [E.out]; rfl), rfl⟩
    · by_cases h3 : 224 ≤ c ∧ c ≤ 239
      · have E : Hid (Utf.long c = 3) := by show _ = _; unfold Utf.long; rw [if_neg h1, if_neg h2, if_pos h3]
        clear h2
        go_enter Tryd.func21, Tryd.ntmps21
        go_wp2_with fail
        refine (between_no _ _ _ _ (by omega) (by omega)).mono ?_
        rintro e w' ⟨rfl, rfl⟩
        go_wp2_with fail
        refine (between_no _ _ _ _ (by omega) (by omega)).mono ?_
        rintro e w' ⟨rfl, rfl⟩
        go_wp2_with fail
        refine (between_yes _ _ _ _ (by omega) (by omega) (by omega)).mono ?_
        rintro e w' ⟨rfl, rfl⟩
        go_wp2_with fail
        go_ret
        exact ⟨ret1 (by rw [E.out]; rfl), rfl⟩
      · by_cases h4 : 240 ≤ c ∧ c ≤ 244
        · have E : Hid (Utf.long c = 4) := by show _ = _; unfold Utf.long; rw [if_neg h1, if_neg h2, if_neg h3, if_pos h4]
          clear h2 h3
          go_enter Tryd.func21, Tryd.ntmps21
          go_wp2_with fail
          refine (between_no _ _ _ _ (by omega) (by omega)).mono ?_
          rintro e w' ⟨rfl, rfl⟩
          go_wp2_with fail
          refine (between_no _ _ _ _ (by omega) (by omega)).mono ?_
          rintro e w' ⟨rfl, rfl⟩
          go_wp2_with fail
          refine (between_no _ _ _ _ (by omega) (by omega)).mono ?_
          rintro e w' ⟨rfl, rfl⟩
          go_wp2_with fail
          refine (between_yes _ _ _ _ (by omega) (by omega) (by omega)).mono ?_
          rintro e w' ⟨rfl, rfl⟩
          go_wp2_with fail
          go_ret
          exact ⟨ret1 (by rw [E.out]; rfl), rfl⟩
        · have E : Hid (Utf.long c = 0) := by show _ = _; unfold Utf.long; rw [if_neg h1, if_neg h2, if_neg h3, if_neg h4]
          have k : (127 < c ∧ c < 194) ∨ 244 < c := by omega
          have K := Lib.hid k
          clear h2 h3 h4 k h1
          go_enter Tryd.func21, Tryd.ntmps21
          go_wp2_with fail
          refine (between_no _ _ _ _ (by omega) (by have := K.out; omega)).mono ?_
          rintro e w' ⟨rfl, rfl⟩
          go_wp2_with fail
          refine (between_no _ _ _ _ (by omega) (by have := K.out; omega)).mono ?_
          rintro e w' ⟨rfl, rfl⟩
          go_wp2_with fail
          refine (between_no _ _ _ _ (by omega) (by have := K.out; omega)).mono ?_
          rintro e w' ⟨rfl, rfl⟩
          go_wp2_with fail
          refine (between_no _ _ _ _ (by omega) (by have := K.out; omega)).mono ?_
          rintro e w' ⟨rfl, rfl⟩
          go_wp2_with fail
          go_ret
          exact ⟨ret1 (by rw [E.out]; rfl), rfl⟩

set_option maxHeartbeats 1000000 in
theorem may_is (f i c : Nat) (b : Bool) (w : World) (hf : f ≤ 255) (hi : 1 ≤ i ∧ i ≤ 100) (hc : c ≤ 255) (h : Utf.may f i c = b) :
    Calls Tryd.prog 27 #[.int .u8 f, .int .i64 i, .int .u8 c] w fun e w' => e = .returned (.bool b) ∧ w = w' := by
  unfold Utf.may at h
  by_cases h1 : 1 < i
  · rw [if_pos h1] at h
    have H := Lib.hid h
    clear h
    go_enter Tryd.func27, Tryd.ntmps27
    go_wp2_with fail
    refine (between_is _ _ _ _ b (by omega) (by rw [← H.out]; exact decide_eq_decide.2 (by omega))).mono ?_
    rintro e w' ⟨rfl, rfl⟩
    go_wp2_with fail
    go_ret
    exact ⟨rfl, rfl⟩
  · rw [if_neg h1] at h
    by_cases h2 : f = 224
    · rw [if_pos h2] at h
      have H := Lib.hid h
      subst h2
      clear h
      go_enter Tryd.func27, Tryd.ntmps27
      go_wp2_with fail
      refine (between_is _ _ _ _ b (by omega) (by rw [← H.out]; exact decide_eq_decide.2 (by omega))).mono ?_
      rintro e w' ⟨rfl, rfl⟩
      go_wp2_with fail
      go_ret
      exact ⟨rfl, rfl⟩
    · rw [if_neg h2] at h
      have e2 : ((f : Int) == 224) = false := by simp; omega
      by_cases h3 : f = 237
      · rw [if_pos h3] at h
        have H := Lib.hid h
        subst h3
        clear h
        go_enter Tryd.func27, Tryd.ntmps27
        go_wp2_with fail
        refine (between_is _ _ _ _ b (by omega) (by rw [← H.out]; exact decide_eq_decide.2 (by omega))).mono ?_
        rintro e w' ⟨rfl, rfl⟩
        go_wp2_with fail
        go_ret
        exact ⟨rfl, rfl⟩
      · rw [if_neg h3] at h
        have e3 : ((f : Int) == 237) = false := by simp; omega
        by_cases h4 : f = 240
        · rw [if_pos h4] at h
          have H := Lib.hid h
          subst h4
          clear h
          go_enter Tryd.func27, Tryd.ntmps27
          go_wp2_with fail
          refine (between_is _ _ _ _ b (by omega) (by rw [← H.out]; exact decide_eq_decide.2 (by omega))).mono ?_
          rintro e w' ⟨rfl, rfl⟩
          go_wp2_with fail
          go_ret
          exact ⟨rfl, rfl⟩
        · rw [if_neg h4] at h
          have e4 : ((f : Int) == 240) = false := by simp; omega
          by_cases h5 : f = 244
          · rw [if_pos h5] at h
            have H := Lib.hid h
            subst h5
            clear h
            go_enter Tryd.func27, Tryd.ntmps27
            go_wp2_with fail
            refine (between_is _ _ _ _ b (by omega) (by rw [← H.out]; exact decide_eq_decide.2 (by omega))).mono ?_
            rintro e w' ⟨rfl, rfl⟩
            go_wp2_with fail
            go_ret
            exact ⟨rfl, rfl⟩
          · rw [if_neg h5] at h
            have e5 : ((f : Int) == 244) = false := by simp; omega
            have H := Lib.hid h
            clear h h2 h3 h4 h5
            go_enter Tryd.func27, Tryd.ntmps27
            go_wp2_with fail
            refine (between_is _ _ _ _ b (by omega) (by rw [← H.out]; exact decide_eq_decide.2 (by omega))).mono ?_
            rintro e w' ⟨rfl, rfl⟩
            go_wp2_with fail
            go_ret
            exact ⟨rfl, rfl⟩
end Go.Proofs.YtgnalnppjhgmjaaDoor
