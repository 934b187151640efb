/- Contracts of the document's answers for layer 4 (package stickfulref04): in, Wide, Of, Many. No condition. -/
import Derived.Test.YtgmdechhghbmpaaDoorCRows
namespace Go.Proofs.YtgmdechhghbmpaaDoor
open Go.ChangeShapes Go.WideShapes Go.ChangeAt Go.RowKit

set_option maxHeartbeats 400000 in
theorem in_yes (r lo hi : Int) (w : World) (h1 : lo ≤ r) (h2 : r ≤ hi) :
    Calls Tryd.prog 22 #[.int .i32 r, .int .i32 lo, .int .i32 hi] w fun e w' => e = .returned (.bool true) ∧ w = w' := by
  go_enter Tryd.func22, Tryd.ntmps22
  go_wp2
  go_ret
  exact ⟨retb (by simp), rfl⟩

set_option maxHeartbeats 400000 in
theorem in_no (r lo hi : Int) (w : World) (h : r < lo ∨ hi < r) :
    Calls Tryd.prog 22 #[.int .i32 r, .int .i32 lo, .int .i32 hi] w fun e w' => e = .returned (.bool false) ∧ w = w' := by
  by_cases h1 : lo ≤ r
  · have h2 : ¬ r ≤ hi := by omega
    clear h
    go_enter Tryd.func22, Tryd.ntmps22
    go_wp2
    go_ret
    exact ⟨retb (by simp), rfl⟩
  · clear h
    go_enter Tryd.func22, Tryd.ntmps22
    go_wp2
    go_ret
    exact ⟨retb (by simp), rfl⟩

/-- the truth of one range -/
def inW (r : Int) (x : Int × Int) : Bool := decide (x.1 ≤ r) && decide (r ≤ x.2)
theorem in_is (r : Int) (x : Int × Int) (b : Bool) (h : inW r x = b) (w : World) :
    Calls Tryd.prog 22 #[.int .i32 r, .int .i32 x.1, .int .i32 x.2] w fun e w' => e = .returned (.bool b) ∧ w = w' := by
  unfold inW at h
  cases b
  · simp at h
    exact in_no r _ _ w (by omega)
  · simp at h
    exact in_yes r _ _ w h.1 h.2

set_option maxRecDepth 100000 in
set_option maxHeartbeats 1000000 in
theorem rwide_0 (r : Int) (w : World) (h0 : inW r (4352, 4447) = true) :
    Calls Tryd.prog 11 #[.int .i32 r] w fun e w' => e = .returned (.bool true) ∧ w = w' := by
  have P0 : Hid (∀ w : World, Calls Tryd.prog 22 #[.int .i32 r, .int .i32 4352, .int .i32 4447] w fun e w' => e = .returned (.bool true) ∧ w = w') := fun w => in_is r (4352, 4447) _ h0 w
  clear h0
  go_enter Tryd.func11, Tryd.ntmps11
  go_wp2_with fail
  refine (P0.out _).mono ?_
  rintro e w' ⟨rfl, rfl⟩
  go_wp2_with fail
  go_ret
  exact ⟨rfl, rfl⟩

set_option maxRecDepth 100000 in
set_option maxHeartbeats 1000000 in
theorem rwide_1 (r : Int) (w : World) (h0 : inW r (4352, 4447) = false) (h1 : inW r (11904, 12350) = true) :
    Calls Tryd.prog 11 #[.int .i32 r] w fun e w' => e = .returned (.bool true) ∧ w = w' := by
  have P0 : Hid (∀ w : World, Calls Tryd.prog 22 #[.int .i32 r, .int .i32 4352, .int .i32 4447] w fun e w' => e = .returned (.bool false) ∧ w = w') := fun w => in_is r (4352, 4447) _ h0 w
  have P1 : Hid (∀ w : World, Calls Tryd.prog 22 #[.int .i32 r, .int .i32 11904, .int .i32 12350] w fun e w' => e = .returned (.bool true) ∧ w = w') := fun w => in_is r (11904, 12350) _ h1 w
  clear h0 h1
  go_enter Tryd.func11, Tryd.ntmps11
  go_wp2_with fail
  refine (P0.out _).mono ?_
  rintro e w' ⟨rfl, rfl⟩
  go_wp2_with fail
  refine (P1.out _).mono ?_
  rintro e w' ⟨rfl, rfl⟩
  go_wp2_with fail
  go_ret
  exact ⟨rfl, rfl⟩

set_option maxRecDepth 100000 in
set_option maxHeartbeats 1000000 in
theorem rwide_2 (r : Int) (w : World) (h0 : inW r (4352, 4447) = false) (h1 : inW r (11904, 12350) = false) (h2 : inW r (12353, 42191) = true) :
    Calls Tryd.prog 11 #[.int .i32 r] w fun e w' => e = .returned (.bool true) ∧ w = w' := by
  have P0 : Hid (∀ w : World, Calls Tryd.prog 22 #[.int .i32 r, .int .i32 4352, .int .i32 4447] w fun e w' => e = .returned (.bool false) ∧ w = w') := fun w => in_is r (4352, 4447) _ h0 w
  have P1 : Hid (∀ w : World, Calls Tryd.prog 22 #[.int .i32 r, .int .i32 11904, .int .i32 12350] w fun e w' => e = .returned (.bool false) ∧ w = w') := fun w => in_is r (11904, 12350) _ h1 w
  have P2 : Hid (∀ w : World, Calls Tryd.prog 22 #[.int .i32 r, .int .i32 12353, .int .i32 42191] w fun e w' => e = .returned (.bool true) ∧ w = w') := fun w => in_is r (12353, 42191) _ h2 w
  clear h0 h1 h2
  go_enter Tryd.func11, Tryd.ntmps11
  go_wp2_with fail
  refine (P0.out _).mono ?_
  rintro e w' ⟨rfl, rfl⟩
  go_wp2_with fail
  refine (P1.out _).mono ?_
  rintro e w' ⟨rfl, rfl⟩
  go_wp2_with fail
  refine (P2.out _).mono ?_
  rintro e w' ⟨rfl, rfl⟩
  go_wp2_with fail
  go_ret
  exact ⟨rfl, rfl⟩

set_option maxRecDepth 100000 in
set_option maxHeartbeats 1000000 in
theorem rwide_3 (r : Int) (w : World) (h0 : inW r (4352, 4447) = false) (h1 : inW r (11904, 12350) = false) (h2 : inW r (12353, 42191) = false) (h3 : inW r (44032, 55203) = true) :
    Calls Tryd.prog 11 #[.int .i32 r] w fun e w' => e = .returned (.bool true) ∧ w = w' := by
  have P0 : Hid (∀ w : World, Calls Tryd.prog 22 #[.int .i32 r, .int .i32 4352, .int .i32 4447] w fun e w' => e = .returned (.bool false) ∧ w = w') := fun w => in_is r (4352, 4447) _ h0 w
  have P1 : Hid (∀ w : World, Calls Tryd.prog 22 #[.int .i32 r, .int .i32 11904, .int .i32 12350] w fun e w' => e = .returned (.bool false) ∧ w = w') := fun w => in_is r (11904, 12350) _ h1 w
  have P2 : Hid (∀ w : World, Calls Tryd.prog 22 #[.int .i32 r, .int .i32 12353, .int .i32 42191] w fun e w' => e = .returned (.bool false) ∧ w = w') := fun w => in_is r (12353, 42191) _ h2 w
  have P3 : Hid (∀ w : World, Calls Tryd.prog 22 #[.int .i32 r, .int .i32 44032, .int .i32 55203] w fun e w' => e = .returned (.bool true) ∧ w = w') := fun w => in_is r (44032, 55203) _ h3 w
  clear h0 h1 h2 h3
  go_enter Tryd.func11, Tryd.ntmps11
  go_wp2_with fail
  refine (P0.out _).mono ?_
  rintro e w' ⟨rfl, rfl⟩
  go_wp2_with fail
  refine (P1.out _).mono ?_
  rintro e w' ⟨rfl, rfl⟩
  go_wp2_with fail
  refine (P2.out _).mono ?_
  rintro e w' ⟨rfl, rfl⟩
  go_wp2_with fail
  refine (P3.out _).mono ?_
  rintro e w' ⟨rfl, rfl⟩
  go_wp2_with fail
  go_ret
  exact ⟨rfl, rfl⟩

set_option maxRecDepth 100000 in
set_option maxHeartbeats 1000000 in
theorem rwide_4 (r : Int) (w : World) (h0 : inW r (4352, 4447) = false) (h1 : inW r (11904, 12350) = false) (h2 : inW r (12353, 42191) = false) (h3 : inW r (44032, 55203) = false) (h4 : inW r (63744, 64255) = true) :
    Calls Tryd.prog 11 #[.int .i32 r] w fun e w' => e = .returned (.bool true) ∧ w = w' := by
  have P0 : Hid (∀ w : World, Calls Tryd.prog 22 #[.int .i32 r, .int .i32 4352, .int .i32 4447] w fun e w' => e = .returned (.bool false) ∧ w = w') := fun w => in_is r (4352, 4447) _ h0 w
  have P1 : Hid (∀ w : World, Calls Tryd.prog 22 #[.int .i32 r, .int .i32 11904, .int .i32 12350] w fun e w' => e = .returned (.bool false) ∧ w = w') := fun w => in_is r (11904, 12350) _ h1 w
  have P2 : Hid (∀ w : World, Calls Tryd.prog 22 #[.int .i32 r, .int .i32 12353, .int .i32 42191] w fun e w' => e = .returned (.bool false) ∧ w = w') := fun w => in_is r (12353, 42191) _ h2 w
  have P3 : Hid (∀ w : World, Calls Tryd.prog 22 #[.int .i32 r, .int .i32 44032, .int .i32 55203] w fun e w' => e = .returned (.bool false) ∧ w = w') := fun w => in_is r (44032, 55203) _ h3 w
  have P4 : Hid (∀ w : World, Calls Tryd.prog 22 #[.int .i32 r, .int .i32 63744, .int .i32 64255] w fun e w' => e = .returned (.bool true) ∧ w = w') := fun w => in_is r (63744, 64255) _ h4 w
  clear h0 h1 h2 h3 h4
  go_enter Tryd.func11, Tryd.ntmps11
  go_wp2_with fail
  refine (P0.out _).mono ?_
  rintro e w' ⟨rfl, rfl⟩
  go_wp2_with fail
  refine (P1.out _).mono ?_
  rintro e w' ⟨rfl, rfl⟩
  go_wp2_with fail
  refine (P2.out _).mono ?_
  rintro e w' ⟨rfl, rfl⟩
  go_wp2_with fail
  refine (P3.out _).mono ?_
  rintro e w' ⟨rfl, rfl⟩
  go_wp2_with fail
  refine (P4.out _).mono ?_
  rintro e w' ⟨rfl, rfl⟩
  go_wp2_with fail
  go_ret
  exact ⟨rfl, rfl⟩

set_option maxRecDepth 100000 in
set_option maxHeartbeats 1000000 in
theorem rwide_5 (r : Int) (w : World) (h0 : inW r (4352, 4447) = false) (h1 : inW r (11904, 12350) = false) (h2 : inW r (12353, 42191) = false) (h3 : inW r (44032, 55203) = false) (h4 : inW r (63744, 64255) = false) (h5 : inW r (65072, 65103) = true) :
    Calls Tryd.prog 11 #[.int .i32 r] w fun e w' => e = .returned (.bool true) ∧ w = w' := by
  have P0 : Hid (∀ w : World, Calls Tryd.prog 22 #[.int .i32 r, .int .i32 4352, .int .i32 4447] w fun e w' => e = .returned (.bool false) ∧ w = w') := fun w => in_is r (4352, 4447) _ h0 w
  have P1 : Hid (∀ w : World, Calls Tryd.prog 22 #[.int .i32 r, .int .i32 11904, .int .i32 12350] w fun e w' => e = .returned (.bool false) ∧ w = w') := fun w => in_is r (11904, 12350) _ h1 w
  have P2 : Hid (∀ w : World, Calls Tryd.prog 22 #[.int .i32 r, .int .i32 12353, .int .i32 42191] w fun e w' => e = .returned (.bool false) ∧ w = w') := fun w => in_is r (12353, 42191) _ h2 w
  have P3 : Hid (∀ w : World, Calls Tryd.prog 22 #[.int .i32 r, .int .i32 44032, .int .i32 55203] w fun e w' => e = .returned (.bool false) ∧ w = w') := fun w => in_is r (44032, 55203) _ h3 w
  have P4 : Hid (∀ w : World, Calls Tryd.prog 22 #[.int .i32 r, .int .i32 63744, .int .i32 64255] w fun e w' => e = .returned (.bool false) ∧ w = w') := fun w => in_is r (63744, 64255) _ h4 w
  have P5 : Hid (∀ w : World, Calls Tryd.prog 22 #[.int .i32 r, .int .i32 65072, .int .i32 65103] w fun e w' => e = .returned (.bool true) ∧ w = w') := fun w => in_is r (65072, 65103) _ h5 w
  clear h0 h1 h2 h3 h4 h5
  go_enter Tryd.func11, Tryd.ntmps11
  go_wp2_with fail
  refine (P0.out _).mono ?_
  rintro e w' ⟨rfl, rfl⟩
  go_wp2_with fail
  refine (P1.out _).mono ?_
  rintro e w' ⟨rfl, rfl⟩
  go_wp2_with fail
  refine (P2.out _).mono ?_
  rintro e w' ⟨rfl, rfl⟩
  go_wp2_with fail
  refine (P3.out _).mono ?_
  rintro e w' ⟨rfl, rfl⟩
  go_wp2_with fail
  refine (P4.out _).mono ?_
  rintro e w' ⟨rfl, rfl⟩
  go_wp2_with fail
  refine (P5.out _).mono ?_
  rintro e w' ⟨rfl, rfl⟩
  go_wp2_with fail
  go_ret
  exact ⟨rfl, rfl⟩

set_option maxRecDepth 100000 in
set_option maxHeartbeats 1000000 in
theorem rwide_6 (r : Int) (w : World) (h0 : inW r (4352, 4447) = false) (h1 : inW r (11904, 12350) = false) (h2 : inW r (12353, 42191) = false) (h3 : inW r (44032, 55203) = false) (h4 : inW r (63744, 64255) = false) (h5 : inW r (65072, 65103) = false) (h6 : inW r (65281, 65376) = true) :
    Calls Tryd.prog 11 #[.int .i32 r] w fun e w' => e = .returned (.bool true) ∧ w = w' := by
  have P0 : Hid (∀ w : World, Calls Tryd.prog 22 #[.int .i32 r, .int .i32 4352, .int .i32 4447] w fun e w' => e = .returned (.bool false) ∧ w = w') := fun w => in_is r (4352, 4447) _ h0 w
  have P1 : Hid (∀ w : World, Calls Tryd.prog 22 #[.int .i32 r, .int .i32 11904, .int .i32 12350] w fun e w' => e = .returned (.bool false) ∧ w = w') := fun w => in_is r (11904, 12350) _ h1 w
  have P2 : Hid (∀ w : World, Calls Tryd.prog 22 #[.int .i32 r, .int .i32 12353, .int .i32 42191] w fun e w' => e = .returned (.bool false) ∧ w = w') := fun w => in_is r (12353, 42191) _ h2 w
  have P3 : Hid (∀ w : World, Calls Tryd.prog 22 #[.int .i32 r, .int .i32 44032, .int .i32 55203] w fun e w' => e = .returned (.bool false) ∧ w = w') := fun w => in_is r (44032, 55203) _ h3 w
  have P4 : Hid (∀ w : World, Calls Tryd.prog 22 #[.int .i32 r, .int .i32 63744, .int .i32 64255] w fun e w' => e = .returned (.bool false) ∧ w = w') := fun w => in_is r (63744, 64255) _ h4 w
  have P5 : Hid (∀ w : World, Calls Tryd.prog 22 #[.int .i32 r, .int .i32 65072, .int .i32 65103] w fun e w' => e = .returned (.bool false) ∧ w = w') := fun w => in_is r (65072, 65103) _ h5 w
  have P6 : Hid (∀ w : World, Calls Tryd.prog 22 #[.int .i32 r, .int .i32 65281, .int .i32 65376] w fun e w' => e = .returned (.bool true) ∧ w = w') := fun w => in_is r (65281, 65376) _ h6 w
  clear h0 h1 h2 h3 h4 h5 h6
  go_enter Tryd.func11, Tryd.ntmps11
  go_wp2_with fail
  refine (P0.out _).mono ?_
  rintro e w' ⟨rfl, rfl⟩
  go_wp2_with fail
  refine (P1.out _).mono ?_
  rintro e w' ⟨rfl, rfl⟩
  go_wp2_with fail
  refine (P2.out _).mono ?_
  rintro e w' ⟨rfl, rfl⟩
  go_wp2_with fail
  refine (P3.out _).mono ?_
  rintro e w' ⟨rfl, rfl⟩
  go_wp2_with fail
  refine (P4.out _).mono ?_
  rintro e w' ⟨rfl, rfl⟩
  go_wp2_with fail
  refine (P5.out _).mono ?_
  rintro e w' ⟨rfl, rfl⟩
  go_wp2_with fail
  refine (P6.out _).mono ?_
  rintro e w' ⟨rfl, rfl⟩
  go_wp2_with fail
  go_ret
  exact ⟨rfl, rfl⟩

set_option maxRecDepth 100000 in
set_option maxHeartbeats 1000000 in
theorem rwide_7 (r : Int) (w : World) (h0 : inW r (4352, 4447) = false) (h1 : inW r (11904, 12350) = false) (h2 : inW r (12353, 42191) = false) (h3 : inW r (44032, 55203) = false) (h4 : inW r (63744, 64255) = false) (h5 : inW r (65072, 65103) = false) (h6 : inW r (65281, 65376) = false) (h7 : inW r (65504, 65510) = true) :
    Calls Tryd.prog 11 #[.int .i32 r] w fun e w' => e = .returned (.bool true) ∧ w = w' := by
  have P0 : Hid (∀ w : World, Calls Tryd.prog 22 #[.int .i32 r, .int .i32 4352, .int .i32 4447] w fun e w' => e = .returned (.bool false) ∧ w = w') := fun w => in_is r (4352, 4447) _ h0 w
  have P1 : Hid (∀ w : World, Calls Tryd.prog 22 #[.int .i32 r, .int .i32 11904, .int .i32 12350] w fun e w' => e = .returned (.bool false) ∧ w = w') := fun w => in_is r (11904, 12350) _ h1 w
  have P2 : Hid (∀ w : World, Calls Tryd.prog 22 #[.int .i32 r, .int .i32 12353, .int .i32 42191] w fun e w' => e = .returned (.bool false) ∧ w = w') := fun w => in_is r (12353, 42191) _ h2 w
  have P3 : Hid (∀ w : World, Calls Tryd.prog 22 #[.int .i32 r, .int .i32 44032, .int .i32 55203] w fun e w' => e = .returned (.bool false) ∧ w = w') := fun w => in_is r (44032, 55203) _ h3 w
  have P4 : Hid (∀ w : World, Calls Tryd.prog 22 #[.int .i32 r, .int .i32 63744, .int .i32 64255] w fun e w' => e = .returned (.bool false) ∧ w = w') := fun w => in_is r (63744, 64255) _ h4 w
  have P5 : Hid (∀ w : World, Calls Tryd.prog 22 #[.int .i32 r, .int .i32 65072, .int .i32 65103] w fun e w' => e = .returned (.bool false) ∧ w = w') := fun w => in_is r (65072, 65103) _ h5 w
  have P6 : Hid (∀ w : World, Calls Tryd.prog 22 #[.int .i32 r, .int .i32 65281, .int .i32 65376] w fun e w' => e = .returned (.bool false) ∧ w = w') := fun w => in_is r (65281, 65376) _ h6 w
  have P7 : Hid (∀ w : World, Calls Tryd.prog 22 #[.int .i32 r, .int .i32 65504, .int .i32 65510] w fun e w' => e = .returned (.bool true) ∧ w = w') := fun w => in_is r (65504, 65510) _ h7 w
  clear h0 h1 h2 h3 h4 h5 h6 h7
  go_enter Tryd.func11, Tryd.ntmps11
  go_wp2_with fail
  refine (P0.out _).mono ?_
  rintro e w' ⟨rfl, rfl⟩
  go_wp2_with fail
  refine (P1.out _).mono ?_
  rintro e w' ⟨rfl, rfl⟩
  go_wp2_with fail
  refine (P2.out _).mono ?_
  rintro e w' ⟨rfl, rfl⟩
  go_wp2_with fail
  refine (P3.out _).mono ?_
  rintro e w' ⟨rfl, rfl⟩
  go_wp2_with fail
  refine (P4.out _).mono ?_
  rintro e w' ⟨rfl, rfl⟩
  go_wp2_with fail
  refine (P5.out _).mono ?_
  rintro e w' ⟨rfl, rfl⟩
  go_wp2_with fail
  refine (P6.out _).mono ?_
  rintro e w' ⟨rfl, rfl⟩
  go_wp2_with fail
  refine (P7.out _).mono ?_
  rintro e w' ⟨rfl, rfl⟩
  go_wp2_with fail
  go_ret
  exact ⟨rfl, rfl⟩

set_option maxRecDepth 100000 in
set_option maxHeartbeats 1000000 in
theorem rwide_8 (r : Int) (w : World) (h0 : inW r (4352, 4447) = false) (h1 : inW r (11904, 12350) = false) (h2 : inW r (12353, 42191) = false) (h3 : inW r (44032, 55203) = false) (h4 : inW r (63744, 64255) = false) (h5 : inW r (65072, 65103) = false) (h6 : inW r (65281, 65376) = false) (h7 : inW r (65504, 65510) = false) (h8 : inW r (127744, 128591) = true) :
    Calls Tryd.prog 11 #[.int .i32 r] w fun e w' => e = .returned (.bool true) ∧ w = w' := by
  have P0 : Hid (∀ w : World, Calls Tryd.prog 22 #[.int .i32 r, .int .i32 4352, .int .i32 4447] w fun e w' => e = .returned (.bool false) ∧ w = w') := fun w => in_is r (4352, 4447) _ h0 w
  have P1 : Hid (∀ w : World, Calls Tryd.prog 22 #[.int .i32 r, .int .i32 11904, .int .i32 12350] w fun e w' => e = .returned (.bool false) ∧ w = w') := fun w => in_is r (11904, 12350) _ h1 w
  have P2 : Hid (∀ w : World, Calls Tryd.prog 22 #[.int .i32 r, .int .i32 12353, .int .i32 42191] w fun e w' => e = .returned (.bool false) ∧ w = w') := fun w => in_is r (12353, 42191) _ h2 w
  have P3 : Hid (∀ w : World, Calls Tryd.prog 22 #[.int .i32 r, .int .i32 44032, .int .i32 55203] w fun e w' => e = .returned (.bool false) ∧ w = w') := fun w => in_is r (44032, 55203) _ h3 w
  have P4 : Hid (∀ w : World, Calls Tryd.prog 22 #[.int .i32 r, .int .i32 63744, .int .i32 64255] w fun e w' => e = .returned (.bool false) ∧ w = w') := fun w => in_is r (63744, 64255) _ h4 w
  have P5 : Hid (∀ w : World, Calls Tryd.prog 22 #[.int .i32 r, .int .i32 65072, .int .i32 65103] w fun e w' => e = .returned (.bool false) ∧ w = w') := fun w => in_is r (65072, 65103) _ h5 w
  have P6 : Hid (∀ w : World, Calls Tryd.prog 22 #[.int .i32 r, .int .i32 65281, .int .i32 65376] w fun e w' => e = .returned (.bool false) ∧ w = w') := fun w => in_is r (65281, 65376) _ h6 w
  have P7 : Hid (∀ w : World, Calls Tryd.prog 22 #[.int .i32 r, .int .i32 65504, .int .i32 65510] w fun e w' => e = .returned (.bool false) ∧ w = w') := fun w => in_is r (65504, 65510) _ h7 w
  have P8 : Hid (∀ w : World, Calls Tryd.prog 22 #[.int .i32 r, .int .i32 127744, .int .i32 128591] w fun e w' => e = .returned (.bool true) ∧ w = w') := fun w => in_is r (127744, 128591) _ h8 w
  clear h0 h1 h2 h3 h4 h5 h6 h7 h8
  go_enter Tryd.func11, Tryd.ntmps11
  go_wp2_with fail
  refine (P0.out _).mono ?_
  rintro e w' ⟨rfl, rfl⟩
  go_wp2_with fail
  refine (P1.out _).mono ?_
  rintro e w' ⟨rfl, rfl⟩
  go_wp2_with fail
  refine (P2.out _).mono ?_
  rintro e w' ⟨rfl, rfl⟩
  go_wp2_with fail
  refine (P3.out _).mono ?_
  rintro e w' ⟨rfl, rfl⟩
  go_wp2_with fail
  refine (P4.out _).mono ?_
  rintro e w' ⟨rfl, rfl⟩
  go_wp2_with fail
  refine (P5.out _).mono ?_
  rintro e w' ⟨rfl, rfl⟩
  go_wp2_with fail
  refine (P6.out _).mono ?_
  rintro e w' ⟨rfl, rfl⟩
  go_wp2_with fail
  refine (P7.out _).mono ?_
  rintro e w' ⟨rfl, rfl⟩
  go_wp2_with fail
  refine (P8.out _).mono ?_
  rintro e w' ⟨rfl, rfl⟩
  go_wp2_with fail
  go_ret
  exact ⟨rfl, rfl⟩

set_option maxRecDepth 100000 in
set_option maxHeartbeats 1000000 in
theorem rwide_9 (r : Int) (w : World) (h0 : inW r (4352, 4447) = false) (h1 : inW r (11904, 12350) = false) (h2 : inW r (12353, 42191) = false) (h3 : inW r (44032, 55203) = false) (h4 : inW r (63744, 64255) = false) (h5 : inW r (65072, 65103) = false) (h6 : inW r (65281, 65376) = false) (h7 : inW r (65504, 65510) = false) (h8 : inW r (127744, 128591) = false) (h9 : inW r (129280, 129535) = true) :
    Calls Tryd.prog 11 #[.int .i32 r] w fun e w' => e = .returned (.bool true) ∧ w = w' := by
  have P0 : Hid (∀ w : World, Calls Tryd.prog 22 #[.int .i32 r, .int .i32 4352, .int .i32 4447] w fun e w' => e = .returned (.bool false) ∧ w = w') := fun w => in_is r (4352, 4447) _ h0 w
  have P1 : Hid (∀ w : World, Calls Tryd.prog 22 #[.int .i32 r, .int .i32 11904, .int .i32 12350] w fun e w' => e = .returned (.bool false) ∧ w = w') := fun w => in_is r (11904, 12350) _ h1 w
  have P2 : Hid (∀ w : World, Calls Tryd.prog 22 #[.int .i32 r, .int .i32 12353, .int .i32 42191] w fun e w' => e = .returned (.bool false) ∧ w = w') := fun w => in_is r (12353, 42191) _ h2 w
  have P3 : Hid (∀ w : World, Calls Tryd.prog 22 #[.int .i32 r, .int .i32 44032, .int .i32 55203] w fun e w' => e = .returned (.bool false) ∧ w = w') := fun w => in_is r (44032, 55203) _ h3 w
  have P4 : Hid (∀ w : World, Calls Tryd.prog 22 #[.int .i32 r, .int .i32 63744, .int .i32 64255] w fun e w' => e = .returned (.bool false) ∧ w = w') := fun w => in_is r (63744, 64255) _ h4 w
  have P5 : Hid (∀ w : World, Calls Tryd.prog 22 #[.int .i32 r, .int .i32 65072, .int .i32 65103] w fun e w' => e = .returned (.bool false) ∧ w = w') := fun w => in_is r (65072, 65103) _ h5 w
  have P6 : Hid (∀ w : World, Calls Tryd.prog 22 #[.int .i32 r, .int .i32 65281, .int .i32 65376] w fun e w' => e = .returned (.bool false) ∧ w = w') := fun w => in_is r (65281, 65376) _ h6 w
  have P7 : Hid (∀ w : World, Calls Tryd.prog 22 #[.int .i32 r, .int .i32 65504, .int .i32 65510] w fun e w' => e = .returned (.bool false) ∧ w = w') := fun w => in_is r (65504, 65510) _ h7 w
  have P8 : Hid (∀ w : World, Calls Tryd.prog 22 #[.int .i32 r, .int .i32 127744, .int .i32 128591] w fun e w' => e = .returned (.bool false) ∧ w = w') := fun w => in_is r (127744, 128591) _ h8 w
  have P9 : Hid (∀ w : World, Calls Tryd.prog 22 #[.int .i32 r, .int .i32 129280, .int .i32 129535] w fun e w' => e = .returned (.bool true) ∧ w = w') := fun w => in_is r (129280, 129535) _ h9 w
  clear h0 h1 h2 h3 h4 h5 h6 h7 h8 h9
  go_enter Tryd.func11, Tryd.ntmps11
  go_wp2_with fail
  refine (P0.out _).mono ?_
  rintro e w' ⟨rfl, rfl⟩
  go_wp2_with fail
  refine (P1.out _).mono ?_
  rintro e w' ⟨rfl, rfl⟩
  go_wp2_with fail
  refine (P2.out _).mono ?_
  rintro e w' ⟨rfl, rfl⟩
  go_wp2_with fail
  refine (P3.out _).mono ?_
  rintro e w' ⟨rfl, rfl⟩
  go_wp2_with fail
  refine (P4.out _).mono ?_
  rintro e w' ⟨rfl, rfl⟩
  go_wp2_with fail
  refine (P5.out _).mono ?_
  rintro e w' ⟨rfl, rfl⟩
  go_wp2_with fail
  refine (P6.out _).mono ?_
  rintro e w' ⟨rfl, rfl⟩
  go_wp2_with fail
  refine (P7.out _).mono ?_
  rintro e w' ⟨rfl, rfl⟩
  go_wp2_with fail
  refine (P8.out _).mono ?_
  rintro e w' ⟨rfl, rfl⟩
  go_wp2_with fail
  refine (P9.out _).mono ?_
  rintro e w' ⟨rfl, rfl⟩
  go_wp2_with fail
  go_ret
  exact ⟨rfl, rfl⟩

set_option maxRecDepth 100000 in
set_option maxHeartbeats 1000000 in
theorem rwide_10 (r : Int) (w : World) (h0 : inW r (4352, 4447) = false) (h1 : inW r (11904, 12350) = false) (h2 : inW r (12353, 42191) = false) (h3 : inW r (44032, 55203) = false) (h4 : inW r (63744, 64255) = false) (h5 : inW r (65072, 65103) = false) (h6 : inW r (65281, 65376) = false) (h7 : inW r (65504, 65510) = false) (h8 : inW r (127744, 128591) = false) (h9 : inW r (129280, 129535) = false) (h10 : inW r (131072, 262141) = true) :
    Calls Tryd.prog 11 #[.int .i32 r] w fun e w' => e = .returned (.bool true) ∧ w = w' := by
  have P0 : Hid (∀ w : World, Calls Tryd.prog 22 #[.int .i32 r, .int .i32 4352, .int .i32 4447] w fun e w' => e = .returned (.bool false) ∧ w = w') := fun w => in_is r (4352, 4447) _ h0 w
  have P1 : Hid (∀ w : World, Calls Tryd.prog 22 #[.int .i32 r, .int .i32 11904, .int .i32 12350] w fun e w' => e = .returned (.bool false) ∧ w = w') := fun w => in_is r (11904, 12350) _ h1 w
  have P2 : Hid (∀ w : World, Calls Tryd.prog 22 #[.int .i32 r, .int .i32 12353, .int .i32 42191] w fun e w' => e = .returned (.bool false) ∧ w = w') := fun w => in_is r (12353, 42191) _ h2 w
  have P3 : Hid (∀ w : World, Calls Tryd.prog 22 #[.int .i32 r, .int .i32 44032, .int .i32 55203] w fun e w' => e = .returned (.bool false) ∧ w = w') := fun w => in_is r (44032, 55203) _ h3 w
  have P4 : Hid (∀ w : World, Calls Tryd.prog 22 #[.int .i32 r, .int .i32 63744, .int .i32 64255] w fun e w' => e = .returned (.bool false) ∧ w = w') := fun w => in_is r (63744, 64255) _ h4 w
  have P5 : Hid (∀ w : World, Calls Tryd.prog 22 #[.int .i32 r, .int .i32 65072, .int .i32 65103] w fun e w' => e = .returned (.bool false) ∧ w = w') := fun w => in_is r (65072, 65103) _ h5 w
  have P6 : Hid (∀ w : World, Calls Tryd.prog 22 #[.int .i32 r, .int .i32 65281, .int .i32 65376] w fun e w' => e = .returned (.bool false) ∧ w = w') := fun w => in_is r (65281, 65376) _ h6 w
  have P7 : Hid (∀ w : World, Calls Tryd.prog 22 #[.int .i32 r, .int .i32 65504, .int .i32 65510] w fun e w' => e = .returned (.bool false) ∧ w = w') := fun w => in_is r (65504, 65510) _ h7 w
  have P8 : Hid (∀ w : World, Calls Tryd.prog 22 #[.int .i32 r, .int .i32 127744, .int .i32 128591] w fun e w' => e = .returned (.bool false) ∧ w = w') := fun w => in_is r (127744, 128591) _ h8 w
  have P9 : Hid (∀ w : World, Calls Tryd.prog 22 #[.int .i32 r, .int .i32 129280, .int .i32 129535] w fun e w' => e = .returned (.bool false) ∧ w = w') := fun w => in_is r (129280, 129535) _ h9 w
  have P10 : Hid (∀ w : World, Calls Tryd.prog 22 #[.int .i32 r, .int .i32 131072, .int .i32 262141] w fun e w' => e = .returned (.bool true) ∧ w = w') := fun w => in_is r (131072, 262141) _ h10 w
  clear h0 h1 h2 h3 h4 h5 h6 h7 h8 h9 h10
  go_enter Tryd.func11, Tryd.ntmps11
  go_wp2_with fail
  refine (P0.out _).mono ?_
  rintro e w' ⟨rfl, rfl⟩
  go_wp2_with fail
  refine (P1.out _).mono ?_
  rintro e w' ⟨rfl, rfl⟩
  go_wp2_with fail
  refine (P2.out _).mono ?_
  rintro e w' ⟨rfl, rfl⟩
  go_wp2_with fail
  refine (P3.out _).mono ?_
  rintro e w' ⟨rfl, rfl⟩
  go_wp2_with fail
  refine (P4.out _).mono ?_
  rintro e w' ⟨rfl, rfl⟩
  go_wp2_with fail
  refine (P5.out _).mono ?_
  rintro e w' ⟨rfl, rfl⟩
  go_wp2_with fail
  refine (P6.out _).mono ?_
  rintro e w' ⟨rfl, rfl⟩
  go_wp2_with fail
  refine (P7.out _).mono ?_
  rintro e w' ⟨rfl, rfl⟩
  go_wp2_with fail
  refine (P8.out _).mono ?_
  rintro e w' ⟨rfl, rfl⟩
  go_wp2_with fail
  refine (P9.out _).mono ?_
  rintro e w' ⟨rfl, rfl⟩
  go_wp2_with fail
  refine (P10.out _).mono ?_
  rintro e w' ⟨rfl, rfl⟩
  go_wp2_with fail
  go_ret
  exact ⟨rfl, rfl⟩

set_option maxRecDepth 100000 in
set_option maxHeartbeats 1000000 in
theorem rwide_11 (r : Int) (w : World) (h0 : inW r (4352, 4447) = false) (h1 : inW r (11904, 12350) = false) (h2 : inW r (12353, 42191) = false) (h3 : inW r (44032, 55203) = false) (h4 : inW r (63744, 64255) = false) (h5 : inW r (65072, 65103) = false) (h6 : inW r (65281, 65376) = false) (h7 : inW r (65504, 65510) = false) (h8 : inW r (127744, 128591) = false) (h9 : inW r (129280, 129535) = false) (h10 : inW r (131072, 262141) = false) :
    Calls Tryd.prog 11 #[.int .i32 r] w fun e w' => e = .returned (.bool false) ∧ w = w' := by
  have P0 : Hid (∀ w : World, Calls Tryd.prog 22 #[.int .i32 r, .int .i32 4352, .int .i32 4447] w fun e w' => e = .returned (.bool false) ∧ w = w') := fun w => in_is r (4352, 4447) _ h0 w
  have P1 : Hid (∀ w : World, Calls Tryd.prog 22 #[.int .i32 r, .int .i32 11904, .int .i32 12350] w fun e w' => e = .returned (.bool false) ∧ w = w') := fun w => in_is r (11904, 12350) _ h1 w
  have P2 : Hid (∀ w : World, Calls Tryd.prog 22 #[.int .i32 r, .int .i32 12353, .int .i32 42191] w fun e w' => e = .returned (.bool false) ∧ w = w') := fun w => in_is r (12353, 42191) _ h2 w
  have P3 : Hid (∀ w : World, Calls Tryd.prog 22 #[.int .i32 r, .int .i32 44032, .int .i32 55203] w fun e w' => e = .returned (.bool false) ∧ w = w') := fun w => in_is r (44032, 55203) _ h3 w
  have P4 : Hid (∀ w : World, Calls Tryd.prog 22 #[.int .i32 r, .int .i32 63744, .int .i32 64255] w fun e w' => e = .returned (.bool false) ∧ w = w') := fun w => in_is r (63744, 64255) _ h4 w
  have P5 : Hid (∀ w : World, Calls Tryd.prog 22 #[.int .i32 r, .int .i32 65072, .int .i32 65103] w fun e w' => e = .returned (.bool false) ∧ w = w') := fun w => in_is r (65072, 65103) _ h5 w
  have P6 : Hid (∀ w : World, Calls Tryd.prog 22 #[.int .i32 r, .int .i32 65281, .int .i32 65376] w fun e w' => e = .returned (.bool false) ∧ w = w') := fun w => in_is r (65281, 65376) _ h6 w
  have P7 : Hid (∀ w : World, Calls Tryd.prog 22 #[.int .i32 r, .int .i32 65504, .int .i32 65510] w fun e w' => e = .returned (.bool false) ∧ w = w') := fun w => in_is r (65504, 65510) _ h7 w
  have P8 : Hid (∀ w : World, Calls Tryd.prog 22 #[.int .i32 r, .int .i32 127744, .int .i32 128591] w fun e w' => e = .returned (.bool false) ∧ w = w') := fun w => in_is r (127744, 128591) _ h8 w
  have P9 : Hid (∀ w : World, Calls Tryd.prog 22 #[.int .i32 r, .int .i32 129280, .int .i32 129535] w fun e w' => e = .returned (.bool false) ∧ w = w') := fun w => in_is r (129280, 129535) _ h9 w
  have P10 : Hid (∀ w : World, Calls Tryd.prog 22 #[.int .i32 r, .int .i32 131072, .int .i32 262141] w fun e w' => e = .returned (.bool false) ∧ w = w') := fun w => in_is r (131072, 262141) _ h10 w
  clear h0 h1 h2 h3 h4 h5 h6 h7 h8 h9 h10
  go_enter Tryd.func11, Tryd.ntmps11
  go_wp2_with fail
  refine (P0.out _).mono ?_
  rintro e w' ⟨rfl, rfl⟩
  go_wp2_with fail
  refine (P1.out _).mono ?_
  rintro e w' ⟨rfl, rfl⟩
  go_wp2_with fail
  refine (P2.out _).mono ?_
  rintro e w' ⟨rfl, rfl⟩
  go_wp2_with fail
  refine (P3.out _).mono ?_
  rintro e w' ⟨rfl, rfl⟩
  go_wp2_with fail
  refine (P4.out _).mono ?_
  rintro e w' ⟨rfl, rfl⟩
  go_wp2_with fail
  refine (P5.out _).mono ?_
  rintro e w' ⟨rfl, rfl⟩
  go_wp2_with fail
  refine (P6.out _).mono ?_
  rintro e w' ⟨rfl, rfl⟩
  go_wp2_with fail
  refine (P7.out _).mono ?_
  rintro e w' ⟨rfl, rfl⟩
  go_wp2_with fail
  refine (P8.out _).mono ?_
  rintro e w' ⟨rfl, rfl⟩
  go_wp2_with fail
  refine (P9.out _).mono ?_
  rintro e w' ⟨rfl, rfl⟩
  go_wp2_with fail
  refine (P10.out _).mono ?_
  rintro e w' ⟨rfl, rfl⟩
  go_wp2_with fail
  go_ret
  exact ⟨rfl, rfl⟩

theorem wideB_eq (r : Int) : wideB r = (inW r (4352, 4447) || (inW r (11904, 12350) || (inW r (12353, 42191) || (inW r (44032, 55203) || (inW r (63744, 64255) || (inW r (65072, 65103) || (inW r (65281, 65376) || (inW r (65504, 65510) || (inW r (127744, 128591) || (inW r (129280, 129535) || (inW r (131072, 262141)))))))))))) := by
  unfold wideB wrows inW
  simp only [List.any_cons, List.any_nil, Bool.or_false]

theorem rwide_is (r : Int) (w : World) (b : Bool) (hb : wideB r = b) :
    Calls Tryd.prog 11 #[.int .i32 r] w fun e w' => e = .returned (.bool b) ∧ w = w' := by
  rw [wideB_eq] at hb
  by_cases h0 : inW r (4352, 4447) = true
  · rw [ h0] at hb
    simp at hb
    subst hb
    exact rwide_0 r w h0
  rw [Bool.not_eq_true] at h0
  by_cases h1 : inW r (11904, 12350) = true
  · rw [h0, h1] at hb
    simp at hb
    subst hb
    exact rwide_1 r w h0 h1
  rw [Bool.not_eq_true] at h1
  by_cases h2 : inW r (12353, 42191) = true
  · rw [h0, h1, h2] at hb
    simp at hb
    subst hb
    exact rwide_2 r w h0 h1 h2
  rw [Bool.not_eq_true] at h2
  by_cases h3 : inW r (44032, 55203) = true
  · rw [h0, h1, h2, h3] at hb
    simp at hb
    subst hb
    exact rwide_3 r w h0 h1 h2 h3
  rw [Bool.not_eq_true] at h3
  by_cases h4 : inW r (63744, 64255) = true
  · rw [h0, h1, h2, h3, h4] at hb
    simp at hb
    subst hb
    exact rwide_4 r w h0 h1 h2 h3 h4
  rw [Bool.not_eq_true] at h4
  by_cases h5 : inW r (65072, 65103) = true
  · rw [h0, h1, h2, h3, h4, h5] at hb
    simp at hb
    subst hb
    exact rwide_5 r w h0 h1 h2 h3 h4 h5
  rw [Bool.not_eq_true] at h5
  by_cases h6 : inW r (65281, 65376) = true
  · rw [h0, h1, h2, h3, h4, h5, h6] at hb
    simp at hb
    subst hb
    exact rwide_6 r w h0 h1 h2 h3 h4 h5 h6
  rw [Bool.not_eq_true] at h6
  by_cases h7 : inW r (65504, 65510) = true
  · rw [h0, h1, h2, h3, h4, h5, h6, h7] at hb
    simp at hb
    subst hb
    exact rwide_7 r w h0 h1 h2 h3 h4 h5 h6 h7
  rw [Bool.not_eq_true] at h7
  by_cases h8 : inW r (127744, 128591) = true
  · rw [h0, h1, h2, h3, h4, h5, h6, h7, h8] at hb
    simp at hb
    subst hb
    exact rwide_8 r w h0 h1 h2 h3 h4 h5 h6 h7 h8
  rw [Bool.not_eq_true] at h8
  by_cases h9 : inW r (129280, 129535) = true
  · rw [h0, h1, h2, h3, h4, h5, h6, h7, h8, h9] at hb
    simp at hb
    subst hb
    exact rwide_9 r w h0 h1 h2 h3 h4 h5 h6 h7 h8 h9
  rw [Bool.not_eq_true] at h9
  by_cases h10 : inW r (131072, 262141) = true
  · rw [h0, h1, h2, h3, h4, h5, h6, h7, h8, h9, h10] at hb
    simp at hb
    subst hb
    exact rwide_10 r w h0 h1 h2 h3 h4 h5 h6 h7 h8 h9 h10
  rw [Bool.not_eq_true] at h10
  rw [h0, h1, h2, h3, h4, h5, h6, h7, h8, h9, h10] at hb
  simp at hb
  subst hb
  exact rwide_11 r w h0 h1 h2 h3 h4 h5 h6 h7 h8 h9 h10

/-! ### Of, Many -/
theorem flat3r (f g h : CRow → Value) : ∀ (l : List CRow) (i : Nat) (x : CRow), l[i]? = some x →
    (l.flatMap fun x => [f x, g x, h x])[i * 3]? = some (f x) ∧ (l.flatMap fun x => [f x, g x, h x])[i * 3 + 1]? = some (g x) ∧ (l.flatMap fun x => [f x, g x, h x])[i * 3 + 2]? = some (h x)
  | [], i, x, hx => by simp at hx
  | y :: t, 0, x, hx => by
    simp at hx
    subst hx
    simp
  | y :: t, i + 1, x, hx => by
    simp at hx
    have ih := flat3r f g h t i x hx
    have e : ∀ k, k < 3 → (i + 1) * 3 + k = i * 3 + k + 3 := fun k _ => by omega
    refine ⟨?_, ?_, ?_⟩
    · rw [show (i + 1) * 3 = i * 3 + 3 by omega]; simpa using ih.1
    · rw [e 1 (by omega)]; simpa using ih.2.1
    · rw [e 2 (by omega)]; simpa using ih.2.2
theorem rrows_at (i : Nat) (h : i < 188) : ∃ x, rrows[i]? = some x := ⟨rrows[i]'(by rw [rrows_len]; exact h), List.getElem?_eq_getElem _⟩
theorem rcells_at (w : World) {i : Nat} {x : CRow} (hx : rrows[i]? = some x) :
    (w.alloc (.cells rcells 38)).cell? ⟨w.heap.size, i * 3, none⟩ = some (.int .i32 x.1) ∧ (w.alloc (.cells rcells 38)).cell? ⟨w.heap.size, i * 3 + 1, none⟩ = some (.int .i32 x.2.1) ∧ (w.alloc (.cells rcells 38)).cell? ⟨w.heap.size, i * 3 + 2, none⟩ = some (.int .i32 x.2.2) := by
  have c := flat3r (fun x => .int .i32 x.1) (fun x => .int .i32 x.2.1) (fun x => .int .i32 x.2.2) rrows i x hx
  have e : ∀ j, (w.alloc (.cells rcells 38)).cell? ⟨w.heap.size, j, none⟩ = rcells[j]? := fun j => World.cell?_alloc_new w rcells 38 j
  rw [e, e, e]
  unfold rcells
  simpa using c
theorem refOf_drop (r : Int) (k : Nat) (x : CRow) (hx : rrows[k]? = some x) : refOf (rrows.drop k) r = if x.1 ≤ r ∧ r ≤ x.2.1 then x.2.2 else refOf (rrows.drop (k + 1)) r := by
  obtain ⟨h, e⟩ := List.getElem?_eq_some_iff.1 hx
  rw [List.drop_eq_getElem_cons h, e]
  rfl
theorem many_take (r : Int) (k : Nat) (x : CRow) (hx : rrows[k]? = some x) : many (rrows.take (k + 1)) r = many (rrows.take k) r + if x.1 ≤ r ∧ r ≤ x.2.1 then 1 else 0 := by
  obtain ⟨h, e⟩ := List.getElem?_eq_some_iff.1 hx
  rw [List.take_succ_eq_append_getElem h, e]
  unfold many
  rw [List.countP_append, List.countP_singleton]
  by_cases hh : x.1 ≤ r ∧ r ≤ x.2.1
  · rw [if_pos hh, if_pos ((hit_iff r x).2 hh)]
  · rw [if_neg hh, if_neg (fun h => hh ((hit_iff r x).1 h))]

set_option maxRecDepth 100000 in
set_option maxHeartbeats 2000000 in
theorem rof_any (r : Int) (w : World) :
    Calls Tryd.prog 8 #[.int .i32 r] w fun e w' => e = .returned (.int .u8 (clsOf r)) ∧ Below w.heap.size w w' := by
  have HR : Hid (refOf (rrows.drop 0) r = clsOf r) := by show _ = _; rw [List.drop_zero]; rfl
  obtain ⟨Q, hQ⟩ : ∃ Q, clsOf r = Q := ⟨_, rfl⟩
  rw [hQ] at HR ⊢
  clear hQ
  have HC : Hid (∀ i x, rrows[i]? = some x → (w.alloc (.cells rcells 38)).cell? ⟨w.heap.size, i * 3, none⟩ = some (.int .i32 x.1) ∧ (w.alloc (.cells rcells 38)).cell? ⟨w.heap.size, i * 3 + 1, none⟩ = some (.int .i32 x.2.1) ∧ (w.alloc (.cells rcells 38)).cell? ⟨w.heap.size, i * 3 + 2, none⟩ = some (.int .i32 x.2.2)) := fun i x hx => rcells_at w hx
  have HB : Hid (Below w.heap.size w (w.alloc (.cells rcells 38))) := below_alloc w _
  go_enter Tryd.func8, Tryd.ntmps8
  go_wp2_with fail
  refine (rrows_any _).mono ?_
  rintro e w1 ⟨rfl, hw1⟩
  rw [← hw1] at HC HB
  clear hw1
  go_wp2_with fail
  go_loop [4] (fun i => ∃ k : Nat, k ≤ 188 ∧ i = .int .i64 k ∧ Hid (refOf (rrows.drop k) r = Q)) (fun i => 188 - (intOf i).toNat)
  case atStart => exact ⟨0, by omega, rfl, HR⟩
  case round =>
    obtain ⟨k, hk, rfl, HK⟩ := hrel
    by_cases hlt : k < 188
    · obtain ⟨x, hx⟩ := rrows_at k hlt
      obtain ⟨c0, c1, c2⟩ := HC.out k x hx
      have hd := refOf_drop r k x hx
      have hbd := List.all_eq_true.1 rrows_le x (List.mem_of_getElem? hx)
      simp at hbd
      obtain ⟨_, _, _, b0, b1⟩ := hbd
      obtain ⟨x0, x1, x2⟩ := x
      simp only at c0 c1 c2 hd b0 b1
      have HD := Lib.hid hd
      clear hd hx
      have hkz : (k : Int) < 188 := by omega
      by_cases h1 : x0 ≤ r
      · by_cases h2 : r ≤ x1
        · go_wp2_with fail
          go_ret
          exact ⟨ret1 (by rw [← HK.out, HD.out, if_pos ⟨h1, h2⟩]), HB.out⟩
        · go_wp2_with fail
          go_round
          case rel => exact ⟨k + 1, by omega, by go_num, by show _ = _; rw [← HK.out, HD.out, if_neg (by omega)]⟩
          case measure => simp [intOf]; omega
      · go_wp2_with fail
        go_round
        case rel => exact ⟨k + 1, by omega, by go_num, by show _ = _; rw [← HK.out, HD.out, if_neg (by omega)]⟩
        case measure => simp [intOf]; omega
    · have hkn : k = 188 := by omega
      subst hkn
      go_wp2_with fail
      go_ret
      exact ⟨ret1 (by rw [← HK.out, List.drop_eq_nil_of_le (by rw [rrows_len]; omega)]; rfl), HB.out⟩

set_option maxRecDepth 100000 in
set_option maxHeartbeats 2000000 in
theorem rmany_any (r : Int) (w : World) :
    Calls Tryd.prog 16 #[.int .i32 r] w fun e w' => e = .returned (.int .i64 (many rrows r : Nat)) ∧ Below w.heap.size w w' := by
  have HC : Hid (∀ i x, rrows[i]? = some x → (w.alloc (.cells rcells 38)).cell? ⟨w.heap.size, i * 3, none⟩ = some (.int .i32 x.1) ∧ (w.alloc (.cells rcells 38)).cell? ⟨w.heap.size, i * 3 + 1, none⟩ = some (.int .i32 x.2.1) ∧ (w.alloc (.cells rcells 38)).cell? ⟨w.heap.size, i * 3 + 2, none⟩ = some (.int .i32 x.2.2)) := fun i x hx => rcells_at w hx
  have HB : Hid (Below w.heap.size w (w.alloc (.cells rcells 38))) := below_alloc w _
  go_enter Tryd.func16, Tryd.ntmps16
  go_wp2_with fail
  refine (rrows_any _).mono ?_
  rintro e w1 ⟨rfl, hw1⟩
  rw [← hw1] at HC HB
  clear hw1
  go_wp2_with fail
  go_loop [4, 5] (fun n i => ∃ (k m : Nat), k ≤ 188 ∧ m ≤ k ∧ i = .int .i64 k ∧ n = .int .i64 m ∧ Hid (many (rrows.take k) r = m)) (fun _ i => 188 - (intOf i).toNat)
  case atStart => exact ⟨0, 0, by omega, by omega, rfl, rfl, (by show _ = _; rfl)⟩
  case round =>
    obtain ⟨k, m, hk, hm, rfl, rfl, HK⟩ := hrel
    by_cases hlt : k < 188
    · obtain ⟨x, hx⟩ := rrows_at k hlt
      obtain ⟨c0, c1, c2⟩ := HC.out k x hx
      have hd := many_take r k x hx
      obtain ⟨x0, x1, x2⟩ := x
      simp only at c0 c1 c2 hd
      have HD := Lib.hid hd
      clear hd hx c2
      have hkz : (k : Int) < 188 := by omega
      by_cases h1 : x0 ≤ r
      · by_cases h2 : r ≤ x1
        · go_wp2_with fail
          go_round
          case rel => exact ⟨k + 1, m + 1, by omega, by omega, by go_num, by go_num, by show _ = _; rw [HD.out, HK.out, if_pos ⟨h1, h2⟩]⟩
          case measure => simp [intOf]; omega
        · go_wp2_with fail
          go_round
          case rel => exact ⟨k + 1, m, by omega, by omega, by go_num, rfl, by show _ = _; rw [HD.out, HK.out, if_neg (by omega)]; rfl⟩
          case measure => simp [intOf]; omega
      · go_wp2_with fail
        go_round
        case rel => exact ⟨k + 1, m, by omega, by omega, by go_num, rfl, by show _ = _; rw [HD.out, HK.out, if_neg (by omega)]; rfl⟩
        case measure => simp [intOf]; omega
    · have hkn : k = 188 := by omega
      subst hkn
      go_wp2_with fail
      go_ret
      exact ⟨ret1 (by rw [← HK.out, List.take_of_length_le (by rw [rrows_len]; omega)]), HB.out⟩
end Go.Proofs.YtgmdechhghbmpaaDoor
