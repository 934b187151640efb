/- Contracts of the document's answers for layer 4 (package stickfulref04): in, Wide. No condition. -/
import Derived.Test.YtejcfhfmdijimaaDoorCWide
import Derived.Test.YtejcfhfmdijimaaDoorWhE
namespace Go.Proofs.YtejcfhfmdijimaaDoor
open Go.ChangeShapes Go.WideShapes Go.ChangeAt Go.RowKit

set_option maxHeartbeats 400000 in
theorem in_yes (r lo hi : Int) (w : World) (h1 : lo ≤ r) (h2 : r ≤ hi) :
    Calls Tryd.prog 76 #[.int .i32 r, .int .i32 lo, .int .i32 hi] w fun e w' => e = .returned (.bool true) ∧ w = w' := by
  go_enter Tryd.func76, Tryd.ntmps76
  go_wp2
  go_ret
  exact ⟨retb (by simp), rfl⟩

set_option maxHeartbeats 400000 in
theorem in_no (r lo hi : Int) (w : World) (h : r < lo ∨ hi < r) :
    Calls Tryd.prog 76 #[.int .i32 r, .int .i32 lo, .int .i32 hi] w fun e w' => e = .returned (.bool false) ∧ w = w' := by
  by_cases h1 : lo ≤ r
  · have h2 : ¬ r ≤ hi := by omega
    clear h
    go_enter Tryd.func76, Tryd.ntmps76
    go_wp2
    go_ret
    exact ⟨retb (by simp), rfl⟩
  · clear h
    go_enter Tryd.func76, Tryd.ntmps76
    go_wp2
    go_ret
    exact ⟨retb (by simp), rfl⟩

/-- the truth of one range -/
def inW (r : Int) (x : Int × Int) : Bool := decide (x.1 ≤ r) && decide (r ≤ x.2)
theorem in_is (r : Int) (x : Int × Int) (b : Bool) (h : inW r x = b) (w : World) :
    Calls Tryd.prog 76 #[.int .i32 r, .int .i32 x.1, .int .i32 x.2] w fun e w' => e = .returned (.bool b) ∧ w = w' := by
  unfold inW at h
  cases b
  · simp at h
    exact in_no r _ _ w (by omega)
  · simp at h
    exact in_yes r _ _ w h.1 h.2

set_option maxRecDepth 100000 in
set_option maxHeartbeats 1000000 in
theorem rwide_0 (r : Int) (w : World) (h0 : inW r (4352, 4447) = true) :
    Calls Tryd.prog 73 #[.int .i32 r] w fun e w' => e = .returned (.bool true) ∧ w = w' := by
  have P0 : Hid (∀ w : World, Calls Tryd.prog 76 #[.int .i32 r, .int .i32 4352, .int .i32 4447] w fun e w' => e = .returned (.bool true) ∧ w = w') := fun w => in_is r (4352, 4447) _ h0 w
  clear h0
  go_enter Tryd.func73, Tryd.ntmps73
  go_wp2_with fail
  refine (P0.out _).mono ?_
  rintro e w' ⟨rfl, rfl⟩
  go_wp2_with fail
  go_ret
  exact ⟨rfl, rfl⟩

set_option maxRecDepth 100000 in
set_option maxHeartbeats 1000000 in
theorem rwide_1 (r : Int) (w : World) (h0 : inW r (4352, 4447) = false) (h1 : inW r (11904, 12350) = true) :
    Calls Tryd.prog 73 #[.int .i32 r] w fun e w' => e = .returned (.bool true) ∧ w = w' := by
  have P0 : Hid (∀ w : World, Calls Tryd.prog 76 #[.int .i32 r, .int .i32 4352, .int .i32 4447] w fun e w' => e = .returned (.bool false) ∧ w = w') := fun w => in_is r (4352, 4447) _ h0 w
  have P1 : Hid (∀ w : World, Calls Tryd.prog 76 #[.int .i32 r, .int .i32 11904, .int .i32 12350] w fun e w' => e = .returned (.bool true) ∧ w = w') := fun w => in_is r (11904, 12350) _ h1 w
  clear h0 h1
  go_enter Tryd.func73, Tryd.ntmps73
  go_wp2_with fail
  refine (P0.out _).mono ?_
  rintro e w' ⟨rfl, rfl⟩
  go_wp2_with fail
  refine (P1.out _).mono ?_
  rintro e w' ⟨rfl, rfl⟩
  go_wp2_with fail
  go_ret
  exact ⟨rfl, rfl⟩

set_option maxRecDepth 100000 in
set_option maxHeartbeats 1000000 in
theorem rwide_2 (r : Int) (w : World) (h0 : inW r (4352, 4447) = false) (h1 : inW r (11904, 12350) = false) (h2 : inW r (12353, 42191) = true) :
    Calls Tryd.prog 73 #[.int .i32 r] w fun e w' => e = .returned (.bool true) ∧ w = w' := by
  have P0 : Hid (∀ w : World, Calls Tryd.prog 76 #[.int .i32 r, .int .i32 4352, .int .i32 4447] w fun e w' => e = .returned (.bool false) ∧ w = w') := fun w => in_is r (4352, 4447) _ h0 w
  have P1 : Hid (∀ w : World, Calls Tryd.prog 76 #[.int .i32 r, .int .i32 11904, .int .i32 12350] w fun e w' => e = .returned (.bool false) ∧ w = w') := fun w => in_is r (11904, 12350) _ h1 w
  have P2 : Hid (∀ w : World, Calls Tryd.prog 76 #[.int .i32 r, .int .i32 12353, .int .i32 42191] w fun e w' => e = .returned (.bool true) ∧ w = w') := fun w => in_is r (12353, 42191) _ h2 w
  clear h0 h1 h2
  go_enter Tryd.func73, Tryd.ntmps73
  go_wp2_with fail
  refine (P0.out _).mono ?_
  rintro e w' ⟨rfl, rfl⟩
  go_wp2_with fail
  refine (P1.out _).mono ?_
  rintro e w' ⟨rfl, rfl⟩
  go_wp2_with fail
  refine (P2.out _).mono ?_
  rintro e w' ⟨rfl, rfl⟩
  go_wp2_with fail
  go_ret
  exact ⟨rfl, rfl⟩

set_option maxRecDepth 100000 in
set_option maxHeartbeats 1000000 in
theorem rwide_3 (r : Int) (w : World) (h0 : inW r (4352, 4447) = false) (h1 : inW r (11904, 12350) = false) (h2 : inW r (12353, 42191) = false) (h3 : inW r (44032, 55203) = true) :
    Calls Tryd.prog 73 #[.int .i32 r] w fun e w' => e = .returned (.bool true) ∧ w = w' := by
  have P0 : Hid (∀ w : World, Calls Tryd.prog 76 #[.int .i32 r, .int .i32 4352, .int .i32 4447] w fun e w' => e = .returned (.bool false) ∧ w = w') := fun w => in_is r (4352, 4447) _ h0 w
  have P1 : Hid (∀ w : World, Calls Tryd.prog 76 #[.int .i32 r, .int .i32 11904, .int .i32 12350] w fun e w' => e = .returned (.bool false) ∧ w = w') := fun w => in_is r (11904, 12350) _ h1 w
  have P2 : Hid (∀ w : World, Calls Tryd.prog 76 #[.int .i32 r, .int .i32 12353, .int .i32 42191] w fun e w' => e = .returned (.bool false) ∧ w = w') := fun w => in_is r (12353, 42191) _ h2 w
  have P3 : Hid (∀ w : World, Calls Tryd.prog 76 #[.int .i32 r, .int .i32 44032, .int .i32 55203] w fun e w' => e = .returned (.bool true) ∧ w = w') := fun w => in_is r (44032, 55203) _ h3 w
  clear h0 h1 h2 h3
  go_enter Tryd.func73, Tryd.ntmps73
  go_wp2_with fail
  refine (P0.out _).mono ?_
  rintro e w' ⟨rfl, rfl⟩
  go_wp2_with fail
  refine (P1.out _).mono ?_
  rintro e w' ⟨rfl, rfl⟩
  go_wp2_with fail
  refine (P2.out _).mono ?_
  rintro e w' ⟨rfl, rfl⟩
  go_wp2_with fail
  refine (P3.out _).mono ?_
  rintro e w' ⟨rfl, rfl⟩
  go_wp2_with fail
  go_ret
  exact ⟨rfl, rfl⟩

set_option maxRecDepth 100000 in
set_option maxHeartbeats 1000000 in
theorem rwide_4 (r : Int) (w : World) (h0 : inW r (4352, 4447) = false) (h1 : inW r (11904, 12350) = false) (h2 : inW r (12353, 42191) = false) (h3 : inW r (44032, 55203) = false) (h4 : inW r (63744, 64255) = true) :
    Calls Tryd.prog 73 #[.int .i32 r] w fun e w' => e = .returned (.bool true) ∧ w = w' := by
  have P0 : Hid (∀ w : World, Calls Tryd.prog 76 #[.int .i32 r, .int .i32 4352, .int .i32 4447] w fun e w' => e = .returned (.bool false) ∧ w = w') := fun w => in_is r (4352, 4447) _ h0 w
  have P1 : Hid (∀ w : World, Calls Tryd.prog 76 #[.int .i32 r, .int .i32 11904, .int .i32 12350] w fun e w' => e = .returned (.bool false) ∧ w = w') := fun w => in_is r (11904, 12350) _ h1 w
  have P2 : Hid (∀ w : World, Calls Tryd.prog 76 #[.int .i32 r, .int .i32 12353, .int .i32 42191] w fun e w' => e = .returned (.bool false) ∧ w = w') := fun w => in_is r (12353, 42191) _ h2 w
  have P3 : Hid (∀ w : World, Calls Tryd.prog 76 #[.int .i32 r, .int .i32 44032, .int .i32 55203] w fun e w' => e = .returned (.bool false) ∧ w = w') := fun w => in_is r (44032, 55203) _ h3 w
  have P4 : Hid (∀ w : World, Calls Tryd.prog 76 #[.int .i32 r, .int .i32 63744, .int .i32 64255] w fun e w' => e = .returned (.bool true) ∧ w = w') := fun w => in_is r (63744, 64255) _ h4 w
  clear h0 h1 h2 h3 h4
  go_enter Tryd.func73, Tryd.ntmps73
  go_wp2_with fail
  refine (P0.out _).mono ?_
  rintro e w' ⟨rfl, rfl⟩
  go_wp2_with fail
  refine (P1.out _).mono ?_
  rintro e w' ⟨rfl, rfl⟩
  go_wp2_with fail
  refine (P2.out _).mono ?_
  rintro e w' ⟨rfl, rfl⟩
  go_wp2_with fail
  refine (P3.out _).mono ?_
  rintro e w' ⟨rfl, rfl⟩
  go_wp2_with fail
  refine (P4.out _).mono ?_
  rintro e w' ⟨rfl, rfl⟩
  go_wp2_with fail
  go_ret
  exact ⟨rfl, rfl⟩

set_option maxRecDepth 100000 in
set_option maxHeartbeats 1000000 in
theorem rwide_5 (r : Int) (w : World) (h0 : inW r (4352, 4447) = false) (h1 : inW r (11904, 12350) = false) (h2 : inW r (12353, 42191) = false) (h3 : inW r (44032, 55203) = false) (h4 : inW r (63744, 64255) = false) (h5 : inW r (65072, 65103) = true) :
    Calls Tryd.prog 73 #[.int .i32 r] w fun e w' => e = .returned (.bool true) ∧ w = w' := by
  have P0 : Hid (∀ w : World, Calls Tryd.prog 76 #[.int .i32 r, .int .i32 4352, .int .i32 4447] w fun e w' => e = .returned (.bool false) ∧ w = w') := fun w => in_is r (4352, 4447) _ h0 w
  have P1 : Hid (∀ w : World, Calls Tryd.prog 76 #[.int .i32 r, .int .i32 11904, .int .i32 12350] w fun e w' => e = .returned (.bool false) ∧ w = w') := fun w => in_is r (11904, 12350) _ h1 w
  have P2 : Hid (∀ w : World, Calls Tryd.prog 76 #[.int .i32 r, .int .i32 12353, .int .i32 42191] w fun e w' => e = .returned (.bool false) ∧ w = w') := fun w => in_is r (12353, 42191) _ h2 w
  have P3 : Hid (∀ w : World, Calls Tryd.prog 76 #[.int .i32 r, .int .i32 44032, .int .i32 55203] w fun e w' => e = .returned (.bool false) ∧ w = w') := fun w => in_is r (44032, 55203) _ h3 w
  have P4 : Hid (∀ w : World, Calls Tryd.prog 76 #[.int .i32 r, .int .i32 63744, .int .i32 64255] w fun e w' => e = .returned (.bool false) ∧ w = w') := fun w => in_is r (63744, 64255) _ h4 w
  have P5 : Hid (∀ w : World, Calls Tryd.prog 76 #[.int .i32 r, .int .i32 65072, .int .i32 65103] w fun e w' => e = .returned (.bool true) ∧ w = w') := fun w => in_is r (65072, 65103) _ h5 w
  clear h0 h1 h2 h3 h4 h5
  go_enter Tryd.func73, Tryd.ntmps73
  go_wp2_with fail
  refine (P0.out _).mono ?_
  rintro e w' ⟨rfl, rfl⟩
  go_wp2_with fail
  refine (P1.out _).mono ?_
  rintro e w' ⟨rfl, rfl⟩
  go_wp2_with fail
  refine (P2.out _).mono ?_
  rintro e w' ⟨rfl, rfl⟩
  go_wp2_with fail
  refine (P3.out _).mono ?_
  rintro e w' ⟨rfl, rfl⟩
  go_wp2_with fail
  refine (P4.out _).mono ?_
  rintro e w' ⟨rfl, rfl⟩
  go_wp2_with fail
  refine (P5.out _).mono ?_
  rintro e w' ⟨rfl, rfl⟩
  go_wp2_with fail
  go_ret
  exact ⟨rfl, rfl⟩

set_option maxRecDepth 100000 in
set_option maxHeartbeats 1000000 in
theorem rwide_6 (r : Int) (w : World) (h0 : inW r (4352, 4447) = false) (h1 : inW r (11904, 12350) = false) (h2 : inW r (12353, 42191) = false) (h3 : inW r (44032, 55203) = false) (h4 : inW r (63744, 64255) = false) (h5 : inW r (65072, 65103) = false) (h6 : inW r (65281, 65376) = true) :
    Calls Tryd.prog 73 #[.int .i32 r] w fun e w' => e = .returned (.bool true) ∧ w = w' := by
  have P0 : Hid (∀ w : World, Calls Tryd.prog 76 #[.int .i32 r, .int .i32 4352, .int .i32 4447] w fun e w' => e = .returned (.bool false) ∧ w = w') := fun w => in_is r (4352, 4447) _ h0 w
  have P1 : Hid (∀ w : World, Calls Tryd.prog 76 #[.int .i32 r, .int .i32 11904, .int .i32 12350] w fun e w' => e = .returned (.bool false) ∧ w = w') := fun w => in_is r (11904, 12350) _ h1 w
  have P2 : Hid (∀ w : World, Calls Tryd.prog 76 #[.int .i32 r, .int .i32 12353, .int .i32 42191] w fun e w' => e = .returned (.bool false) ∧ w = w') := fun w => in_is r (12353, 42191) _ h2 w
  have P3 : Hid (∀ w : World, Calls Tryd.prog 76 #[.int .i32 r, .int .i32 44032, .int .i32 55203] w fun e w' => e = .returned (.bool false) ∧ w = w') := fun w => in_is r (44032, 55203) _ h3 w
  have P4 : Hid (∀ w : World, Calls Tryd.prog 76 #[.int .i32 r, .int .i32 63744, .int .i32 64255] w fun e w' => e = .returned (.bool false) ∧ w = w') := fun w => in_is r (63744, 64255) _ h4 w
  have P5 : Hid (∀ w : World, Calls Tryd.prog 76 #[.int .i32 r, .int .i32 65072, .int .i32 65103] w fun e w' => e = .returned (.bool false) ∧ w = w') := fun w => in_is r (65072, 65103) _ h5 w
  have P6 : Hid (∀ w : World, Calls Tryd.prog 76 #[.int .i32 r, .int .i32 65281, .int .i32 65376] w fun e w' => e = .returned (.bool true) ∧ w = w') := fun w => in_is r (65281, 65376) _ h6 w
  clear h0 h1 h2 h3 h4 h5 h6
  go_enter Tryd.func73, Tryd.ntmps73
  go_wp2_with fail
  refine (P0.out _).mono ?_
  rintro e w' ⟨rfl, rfl⟩
  go_wp2_with fail
  refine (P1.out _).mono ?_
  rintro e w' ⟨rfl, rfl⟩
  go_wp2_with fail
  refine (P2.out _).mono ?_
  rintro e w' ⟨rfl, rfl⟩
  go_wp2_with fail
  refine (P3.out _).mono ?_
  rintro e w' ⟨rfl, rfl⟩
  go_wp2_with fail
  refine (P4.out _).mono ?_
  rintro e w' ⟨rfl, rfl⟩
  go_wp2_with fail
  refine (P5.out _).mono ?_
  rintro e w' ⟨rfl, rfl⟩
  go_wp2_with fail
  refine (P6.out _).mono ?_
  rintro e w' ⟨rfl, rfl⟩
  go_wp2_with fail
  go_ret
  exact ⟨rfl, rfl⟩

set_option maxRecDepth 100000 in
set_option maxHeartbeats 1000000 in
theorem rwide_7 (r : Int) (w : World) (h0 : inW r (4352, 4447) = false) (h1 : inW r (11904, 12350) = false) (h2 : inW r (12353, 42191) = false) (h3 : inW r (44032, 55203) = false) (h4 : inW r (63744, 64255) = false) (h5 : inW r (65072, 65103) = false) (h6 : inW r (65281, 65376) = false) (h7 : inW r (65504, 65510) = true) :
    Calls Tryd.prog 73 #[.int .i32 r] w fun e w' => e = .returned (.bool true) ∧ w = w' := by
  have P0 : Hid (∀ w : World, Calls Tryd.prog 76 #[.int .i32 r, .int .i32 4352, .int .i32 4447] w fun e w' => e = .returned (.bool false) ∧ w = w') := fun w => in_is r (4352, 4447) _ h0 w
  have P1 : Hid (∀ w : World, Calls Tryd.prog 76 #[.int .i32 r, .int .i32 11904, .int .i32 12350] w fun e w' => e = .returned (.bool false) ∧ w = w') := fun w => in_is r (11904, 12350) _ h1 w
  have P2 : Hid (∀ w : World, Calls Tryd.prog 76 #[.int .i32 r, .int .i32 12353, .int .i32 42191] w fun e w' => e = .returned (.bool false) ∧ w = w') := fun w => in_is r (12353, 42191) _ h2 w
  have P3 : Hid (∀ w : World, Calls Tryd.prog 76 #[.int .i32 r, .int .i32 44032, .int .i32 55203] w fun e w' => e = .returned (.bool false) ∧ w = w') := fun w => in_is r (44032, 55203) _ h3 w
  have P4 : Hid (∀ w : World, Calls Tryd.prog 76 #[.int .i32 r, .int .i32 63744, .int .i32 64255] w fun e w' => e = .returned (.bool false) ∧ w = w') := fun w => in_is r (63744, 64255) _ h4 w
  have P5 : Hid (∀ w : World, Calls Tryd.prog 76 #[.int .i32 r, .int .i32 65072, .int .i32 65103] w fun e w' => e = .returned (.bool false) ∧ w = w') := fun w => in_is r (65072, 65103) _ h5 w
  have P6 : Hid (∀ w : World, Calls Tryd.prog 76 #[.int .i32 r, .int .i32 65281, .int .i32 65376] w fun e w' => e = .returned (.bool false) ∧ w = w') := fun w => in_is r (65281, 65376) _ h6 w
  have P7 : Hid (∀ w : World, Calls Tryd.prog 76 #[.int .i32 r, .int .i32 65504, .int .i32 65510] w fun e w' => e = .returned (.bool true) ∧ w = w') := fun w => in_is r (65504, 65510) _ h7 w
  clear h0 h1 h2 h3 h4 h5 h6 h7
  go_enter Tryd.func73, Tryd.ntmps73
  go_wp2_with fail
  refine (P0.out _).mono ?_
  rintro e w' ⟨rfl, rfl⟩
  go_wp2_with fail
  refine (P1.out _).mono ?_
  rintro e w' ⟨rfl, rfl⟩
  go_wp2_with fail
  refine (P2.out _).mono ?_
  rintro e w' ⟨rfl, rfl⟩
  go_wp2_with fail
  refine (P3.out _).mono ?_
  rintro e w' ⟨rfl, rfl⟩
  go_wp2_with fail
  refine (P4.out _).mono ?_
  rintro e w' ⟨rfl, rfl⟩
  go_wp2_with fail
  refine (P5.out _).mono ?_
  rintro e w' ⟨rfl, rfl⟩
  go_wp2_with fail
  refine (P6.out _).mono ?_
  rintro e w' ⟨rfl, rfl⟩
  go_wp2_with fail
  refine (P7.out _).mono ?_
  rintro e w' ⟨rfl, rfl⟩
  go_wp2_with fail
  go_ret
  exact ⟨rfl, rfl⟩

set_option maxRecDepth 100000 in
set_option maxHeartbeats 1000000 in
theorem rwide_8 (r : Int) (w : World) (h0 : inW r (4352, 4447) = false) (h1 : inW r (11904, 12350) = false) (h2 : inW r (12353, 42191) = false) (h3 : inW r (44032, 55203) = false) (h4 : inW r (63744, 64255) = false) (h5 : inW r (65072, 65103) = false) (h6 : inW r (65281, 65376) = false) (h7 : inW r (65504, 65510) = false) (h8 : inW r (127744, 128591) = true) :
    Calls Tryd.prog 73 #[.int .i32 r] w fun e w' => e = .returned (.bool true) ∧ w = w' := by
  have P0 : Hid (∀ w : World, Calls Tryd.prog 76 #[.int .i32 r, .int .i32 4352, .int .i32 4447] w fun e w' => e = .returned (.bool false) ∧ w = w') := fun w => in_is r (4352, 4447) _ h0 w
  have P1 : Hid (∀ w : World, Calls Tryd.prog 76 #[.int .i32 r, .int .i32 11904, .int .i32 12350] w fun e w' => e = .returned (.bool false) ∧ w = w') := fun w => in_is r (11904, 12350) _ h1 w
  have P2 : Hid (∀ w : World, Calls Tryd.prog 76 #[.int .i32 r, .int .i32 12353, .int .i32 42191] w fun e w' => e = .returned (.bool false) ∧ w = w') := fun w => in_is r (12353, 42191) _ h2 w
  have P3 : Hid (∀ w : World, Calls Tryd.prog 76 #[.int .i32 r, .int .i32 44032, .int .i32 55203] w fun e w' => e = .returned (.bool false) ∧ w = w') := fun w => in_is r (44032, 55203) _ h3 w
  have P4 : Hid (∀ w : World, Calls Tryd.prog 76 #[.int .i32 r, .int .i32 63744, .int .i32 64255] w fun e w' => e = .returned (.bool false) ∧ w = w') := fun w => in_is r (63744, 64255) _ h4 w
  have P5 : Hid (∀ w : World, Calls Tryd.prog 76 #[.int .i32 r, .int .i32 65072, .int .i32 65103] w fun e w' => e = .returned (.bool false) ∧ w = w') := fun w => in_is r (65072, 65103) _ h5 w
  have P6 : Hid (∀ w : World, Calls Tryd.prog 76 #[.int .i32 r, .int .i32 65281, .int .i32 65376] w fun e w' => e = .returned (.bool false) ∧ w = w') := fun w => in_is r (65281, 65376) _ h6 w
  have P7 : Hid (∀ w : World, Calls Tryd.prog 76 #[.int .i32 r, .int .i32 65504, .int .i32 65510] w fun e w' => e = .returned (.bool false) ∧ w = w') := fun w => in_is r (65504, 65510) _ h7 w
  have P8 : Hid (∀ w : World, Calls Tryd.prog 76 #[.int .i32 r, .int .i32 127744, .int .i32 128591] w fun e w' => e = .returned (.bool true) ∧ w = w') := fun w => in_is r (127744, 128591) _ h8 w
  clear h0 h1 h2 h3 h4 h5 h6 h7 h8
  go_enter Tryd.func73, Tryd.ntmps73
  go_wp2_with fail
  refine (P0.out _).mono ?_
  rintro e w' ⟨rfl, rfl⟩
  go_wp2_with fail
  refine (P1.out _).mono ?_
  rintro e w' ⟨rfl, rfl⟩
  go_wp2_with fail
  refine (P2.out _).mono ?_
  rintro e w' ⟨rfl, rfl⟩
  go_wp2_with fail
  refine (P3.out _).mono ?_
  rintro e w' ⟨rfl, rfl⟩
  go_wp2_with fail
  refine (P4.out _).mono ?_
  rintro e w' ⟨rfl, rfl⟩
  go_wp2_with fail
  refine (P5.out _).mono ?_
  rintro e w' ⟨rfl, rfl⟩
  go_wp2_with fail
  refine (P6.out _).mono ?_
  rintro e w' ⟨rfl, rfl⟩
  go_wp2_with fail
  refine (P7.out _).mono ?_
  rintro e w' ⟨rfl, rfl⟩
  go_wp2_with fail
  refine (P8.out _).mono ?_
  rintro e w' ⟨rfl, rfl⟩
  go_wp2_with fail
  go_ret
  exact ⟨rfl, rfl⟩

set_option maxRecDepth 100000 in
set_option maxHeartbeats 1000000 in
theorem rwide_9 (r : Int) (w : World) (h0 : inW r (4352, 4447) = false) (h1 : inW r (11904, 12350) = false) (h2 : inW r (12353, 42191) = false) (h3 : inW r (44032, 55203) = false) (h4 : inW r (63744, 64255) = false) (h5 : inW r (65072, 65103) = false) (h6 : inW r (65281, 65376) = false) (h7 : inW r (65504, 65510) = false) (h8 : inW r (127744, 128591) = false) (h9 : inW r (129280, 129535) = true) :
    Calls Tryd.prog 73 #[.int .i32 r] w fun e w' => e = .returned (.bool true) ∧ w = w' := by
  have P0 : Hid (∀ w : World, Calls Tryd.prog 76 #[.int .i32 r, .int .i32 4352, .int .i32 4447] w fun e w' => e = .returned (.bool false) ∧ w = w') := fun w => in_is r (4352, 4447) _ h0 w
  have P1 : Hid (∀ w : World, Calls Tryd.prog 76 #[.int .i32 r, .int .i32 11904, .int .i32 12350] w fun e w' => e = .returned (.bool false) ∧ w = w') := fun w => in_is r (11904, 12350) _ h1 w
  have P2 : Hid (∀ w : World, Calls Tryd.prog 76 #[.int .i32 r, .int .i32 12353, .int .i32 42191] w fun e w' => e = .returned (.bool false) ∧ w = w') := fun w => in_is r (12353, 42191) _ h2 w
  have P3 : Hid (∀ w : World, Calls Tryd.prog 76 #[.int .i32 r, .int .i32 44032, .int .i32 55203] w fun e w' => e = .returned (.bool false) ∧ w = w') := fun w => in_is r (44032, 55203) _ h3 w
  have P4 : Hid (∀ w : World, Calls Tryd.prog 76 #[.int .i32 r, .int .i32 63744, .int .i32 64255] w fun e w' => e = .returned (.bool false) ∧ w = w') := fun w => in_is r (63744, 64255) _ h4 w
  have P5 : Hid (∀ w : World, Calls Tryd.prog 76 #[.int .i32 r, .int .i32 65072, .int .i32 65103] w fun e w' => e = .returned (.bool false) ∧ w = w') := fun w => in_is r (65072, 65103) _ h5 w
  have P6 : Hid (∀ w : World, Calls Tryd.prog 76 #[.int .i32 r, .int .i32 65281, .int .i32 65376] w fun e w' => e = .returned (.bool false) ∧ w = w') := fun w => in_is r (65281, 65376) _ h6 w
  have P7 : Hid (∀ w : World, Calls Tryd.prog 76 #[.int .i32 r, .int .i32 65504, .int .i32 65510] w fun e w' => e = .returned (.bool false) ∧ w = w') := fun w => in_is r (65504, 65510) _ h7 w
  have P8 : Hid (∀ w : World, Calls Tryd.prog 76 #[.int .i32 r, .int .i32 127744, .int .i32 128591] w fun e w' => e = .returned (.bool false) ∧ w = w') := fun w => in_is r (127744, 128591) _ h8 w
  have P9 : Hid (∀ w : World, Calls Tryd.prog 76 #[.int .i32 r, .int .i32 129280, .int .i32 129535] w fun e w' => e = .returned (.bool true) ∧ w = w') := fun w => in_is r (129280, 129535) _ h9 w
  clear h0 h1 h2 h3 h4 h5 h6 h7 h8 h9
  go_enter Tryd.func73, Tryd.ntmps73
  go_wp2_with fail
  refine (P0.out _).mono ?_
  rintro e w' ⟨rfl, rfl⟩
  go_wp2_with fail
  refine (P1.out _).mono ?_
  rintro e w' ⟨rfl, rfl⟩
  go_wp2_with fail
  refine (P2.out _).mono ?_
  rintro e w' ⟨rfl, rfl⟩
  go_wp2_with fail
  refine (P3.out _).mono ?_
  rintro e w' ⟨rfl, rfl⟩
  go_wp2_with fail
  refine (P4.out _).mono ?_
  rintro e w' ⟨rfl, rfl⟩
  go_wp2_with fail
  refine (P5.out _).mono ?_
  rintro e w' ⟨rfl, rfl⟩
  go_wp2_with fail
  refine (P6.out _).mono ?_
  rintro e w' ⟨rfl, rfl⟩
  go_wp2_with fail
  refine (P7.out _).mono ?_
  rintro e w' ⟨rfl, rfl⟩
  go_wp2_with fail
  refine (P8.out _).mono ?_
  rintro e w' ⟨rfl, rfl⟩
  go_wp2_with fail
  refine (P9.out _).mono ?_
  rintro e w' ⟨rfl, rfl⟩
  go_wp2_with fail
  go_ret
  exact ⟨rfl, rfl⟩

set_option maxRecDepth 100000 in
set_option maxHeartbeats 1000000 in
theorem rwide_10 (r : Int) (w : World) (h0 : inW r (4352, 4447) = false) (h1 : inW r (11904, 12350) = false) (h2 : inW r (12353, 42191) = false) (h3 : inW r (44032, 55203) = false) (h4 : inW r (63744, 64255) = false) (h5 : inW r (65072, 65103) = false) (h6 : inW r (65281, 65376) = false) (h7 : inW r (65504, 65510) = false) (h8 : inW r (127744, 128591) = false) (h9 : inW r (129280, 129535) = false) (h10 : inW r (131072, 262141) = true) :
    Calls Tryd.prog 73 #[.int .i32 r] w fun e w' => e = .returned (.bool true) ∧ w = w' := by
  have P0 : Hid (∀ w : World, Calls Tryd.prog 76 #[.int .i32 r, .int .i32 4352, .int .i32 4447] w fun e w' => e = .returned (.bool false) ∧ w = w') := fun w => in_is r (4352, 4447) _ h0 w
  have P1 : Hid (∀ w : World, Calls Tryd.prog 76 #[.int .i32 r, .int .i32 11904, .int .i32 12350] w fun e w' => e = .returned (.bool false) ∧ w = w') := fun w => in_is r (11904, 12350) _ h1 w
  have P2 : Hid (∀ w : World, Calls Tryd.prog 76 #[.int .i32 r, .int .i32 12353, .int .i32 42191] w fun e w' => e = .returned (.bool false) ∧ w = w') := fun w => in_is r (12353, 42191) _ h2 w
  have P3 : Hid (∀ w : World, Calls Tryd.prog 76 #[.int .i32 r, .int .i32 44032, .int .i32 55203] w fun e w' => e = .returned (.bool false) ∧ w = w') := fun w => in_is r (44032, 55203) _ h3 w
  have P4 : Hid (∀ w : World, Calls Tryd.prog 76 #[.int .i32 r, .int .i32 63744, .int .i32 64255] w fun e w' => e = .returned (.bool false) ∧ w = w') := fun w => in_is r (63744, 64255) _ h4 w
  have P5 : Hid (∀ w : World, Calls Tryd.prog 76 #[.int .i32 r, .int .i32 65072, .int .i32 65103] w fun e w' => e = .returned (.bool false) ∧ w = w') := fun w => in_is r (65072, 65103) _ h5 w
  have P6 : Hid (∀ w : World, Calls Tryd.prog 76 #[.int .i32 r, .int .i32 65281, .int .i32 65376] w fun e w' => e = .returned (.bool false) ∧ w = w') := fun w => in_is r (65281, 65376) _ h6 w
  have P7 : Hid (∀ w : World, Calls Tryd.prog 76 #[.int .i32 r, .int .i32 65504, .int .i32 65510] w fun e w' => e = .returned (.bool false) ∧ w = w') := fun w => in_is r (65504, 65510) _ h7 w
  have P8 : Hid (∀ w : World, Calls Tryd.prog 76 #[.int .i32 r, .int .i32 127744, .int .i32 128591] w fun e w' => e = .returned (.bool false) ∧ w = w') := fun w => in_is r (127744, 128591) _ h8 w
  have P9 : Hid (∀ w : World, Calls Tryd.prog 76 #[.int .i32 r, .int .i32 129280, .int .i32 129535] w fun e w' => e = .returned (.bool false) ∧ w = w') := fun w => in_is r (129280, 129535) _ h9 w
  have P10 : Hid (∀ w : World, Calls Tryd.prog 76 #[.int .i32 r, .int .i32 131072, .int .i32 262141] w fun e w' => e = .returned (.bool true) ∧ w = w') := fun w => in_is r (131072, 262141) _ h10 w
  clear h0 h1 h2 h3 h4 h5 h6 h7 h8 h9 h10
  go_enter Tryd.func73, Tryd.ntmps73
  go_wp2_with fail
  refine (P0.out _).mono ?_
  rintro e w' ⟨rfl, rfl⟩
  go_wp2_with fail
  refine (P1.out _).mono ?_
  rintro e w' ⟨rfl, rfl⟩
  go_wp2_with fail
  refine (P2.out _).mono ?_
  rintro e w' ⟨rfl, rfl⟩
  go_wp2_with fail
  refine (P3.out _).mono ?_
  rintro e w' ⟨rfl, rfl⟩
  go_wp2_with fail
  refine (P4.out _).mono ?_
  rintro e w' ⟨rfl, rfl⟩
  go_wp2_with fail
  refine (P5.out _).mono ?_
  rintro e w' ⟨rfl, rfl⟩
  go_wp2_with fail
  refine (P6.out _).mono ?_
  rintro e w' ⟨rfl, rfl⟩
  go_wp2_with fail
  refine (P7.out _).mono ?_
  rintro e w' ⟨rfl, rfl⟩
  go_wp2_with fail
  refine (P8.out _).mono ?_
  rintro e w' ⟨rfl, rfl⟩
  go_wp2_with fail
  refine (P9.out _).mono ?_
  rintro e w' ⟨rfl, rfl⟩
  go_wp2_with fail
  refine (P10.out _).mono ?_
  rintro e w' ⟨rfl, rfl⟩
  go_wp2_with fail
  go_ret
  exact ⟨rfl, rfl⟩

set_option maxRecDepth 100000 in
set_option maxHeartbeats 1000000 in
theorem rwide_11 (r : Int) (w : World) (h0 : inW r (4352, 4447) = false) (h1 : inW r (11904, 12350) = false) (h2 : inW r (12353, 42191) = false) (h3 : inW r (44032, 55203) = false) (h4 : inW r (63744, 64255) = false) (h5 : inW r (65072, 65103) = false) (h6 : inW r (65281, 65376) = false) (h7 : inW r (65504, 65510) = false) (h8 : inW r (127744, 128591) = false) (h9 : inW r (129280, 129535) = false) (h10 : inW r (131072, 262141) = false) :
    Calls Tryd.prog 73 #[.int .i32 r] w fun e w' => e = .returned (.bool false) ∧ w = w' := by
  have P0 : Hid (∀ w : World, Calls Tryd.prog 76 #[.int .i32 r, .int .i32 4352, .int .i32 4447] w fun e w' => e = .returned (.bool false) ∧ w = w') := fun w => in_is r (4352, 4447) _ h0 w
  have P1 : Hid (∀ w : World, Calls Tryd.prog 76 #[.int .i32 r, .int .i32 11904, .int .i32 12350] w fun e w' => e = .returned (.bool false) ∧ w = w') := fun w => in_is r (11904, 12350) _ h1 w
  have P2 : Hid (∀ w : World, Calls Tryd.prog 76 #[.int .i32 r, .int .i32 12353, .int .i32 42191] w fun e w' => e = .returned (.bool false) ∧ w = w') := fun w => in_is r (12353, 42191) _ h2 w
  have P3 : Hid (∀ w : World, Calls Tryd.prog 76 #[.int .i32 r, .int .i32 44032, .int .i32 55203] w fun e w' => e = .returned (.bool false) ∧ w = w') := fun w => in_is r (44032, 55203) _ h3 w
  have P4 : Hid (∀ w : World, Calls Tryd.prog 76 #[.int .i32 r, .int .i32 63744, .int .i32 64255] w fun e w' => e = .returned (.bool false) ∧ w = w') := fun w => in_is r (63744, 64255) _ h4 w
  have P5 : Hid (∀ w : World, Calls Tryd.prog 76 #[.int .i32 r, .int .i32 65072, .int .i32 65103] w fun e w' => e = .returned (.bool false) ∧ w = w') := fun w => in_is r (65072, 65103) _ h5 w
  have P6 : Hid (∀ w : World, Calls Tryd.prog 76 #[.int .i32 r, .int .i32 65281, .int .i32 65376] w fun e w' => e = .returned (.bool false) ∧ w = w') := fun w => in_is r (65281, 65376) _ h6 w
  have P7 : Hid (∀ w : World, Calls Tryd.prog 76 #[.int .i32 r, .int .i32 65504, .int .i32 65510] w fun e w' => e = .returned (.bool false) ∧ w = w') := fun w => in_is r (65504, 65510) _ h7 w
  have P8 : Hid (∀ w : World, Calls Tryd.prog 76 #[.int .i32 r, .int .i32 127744, .int .i32 128591] w fun e w' => e = .returned (.bool false) ∧ w = w') := fun w => in_is r (127744, 128591) _ h8 w
  have P9 : Hid (∀ w : World, Calls Tryd.prog 76 #[.int .i32 r, .int .i32 129280, .int .i32 129535] w fun e w' => e = .returned (.bool false) ∧ w = w') := fun w => in_is r (129280, 129535) _ h9 w
  have P10 : Hid (∀ w : World, Calls Tryd.prog 76 #[.int .i32 r, .int .i32 131072, .int .i32 262141] w fun e w' => e = .returned (.bool false) ∧ w = w') := fun w => in_is r (131072, 262141) _ h10 w
  clear h0 h1 h2 h3 h4 h5 h6 h7 h8 h9 h10
  go_enter Tryd.func73, Tryd.ntmps73
  go_wp2_with fail
  refine (P0.out _).mono ?_
  rintro e w' ⟨rfl, rfl⟩
  go_wp2_with fail
  refine (P1.out _).mono ?_
  rintro e w' ⟨rfl, rfl⟩
  go_wp2_with fail
  refine (P2.out _).mono ?_
  rintro e w' ⟨rfl, rfl⟩
  go_wp2_with fail
  refine (P3.out _).mono ?_
  rintro e w' ⟨rfl, rfl⟩
  go_wp2_with fail
  refine (P4.out _).mono ?_
  rintro e w' ⟨rfl, rfl⟩
  go_wp2_with fail
  refine (P5.out _).mono ?_
  rintro e w' ⟨rfl, rfl⟩
  go_wp2_with fail
  refine (P6.out _).mono ?_
  rintro e w' ⟨rfl, rfl⟩
  go_wp2_with fail
  refine (P7.out _).mono ?_
  rintro e w' ⟨rfl, rfl⟩
  go_wp2_with fail
  refine (P8.out _).mono ?_
  rintro e w' ⟨rfl, rfl⟩
  go_wp2_with fail
  refine (P9.out _).mono ?_
  rintro e w' ⟨rfl, rfl⟩
  go_wp2_with fail
  refine (P10.out _).mono ?_
  rintro e w' ⟨rfl, rfl⟩
  go_wp2_with fail
  go_ret
  exact ⟨rfl, rfl⟩

theorem wideB_eq (r : Int) : wideB r = (inW r (4352, 4447) || (inW r (11904, 12350) || (inW r (12353, 42191) || (inW r (44032, 55203) || (inW r (63744, 64255) || (inW r (65072, 65103) || (inW r (65281, 65376) || (inW r (65504, 65510) || (inW r (127744, 128591) || (inW r (129280, 129535) || (inW r (131072, 262141)))))))))))) := by
  unfold wideB wrows inW
  simp only [List.any_cons, List.any_nil, Bool.or_false]

theorem rwide_is (r : Int) (w : World) (b : Bool) (hb : wideB r = b) :
    Calls Tryd.prog 73 #[.int .i32 r] w fun e w' => e = .returned (.bool b) ∧ w = w' := by
  rw [wideB_eq] at hb
  by_cases h0 : inW r (4352, 4447) = true
  · rw [ h0] at hb
    simp at hb
    subst hb
    exact rwide_0 r w h0
  rw [Bool.not_eq_true] at h0
  by_cases h1 : inW r (11904, 12350) = true
  · rw [h0, h1] at hb
    simp at hb
    subst hb
    exact rwide_1 r w h0 h1
  rw [Bool.not_eq_true] at h1
  by_cases h2 : inW r (12353, 42191) = true
  · rw [h0, h1, h2] at hb
    simp at hb
    subst hb
    exact rwide_2 r w h0 h1 h2
  rw [Bool.not_eq_true] at h2
  by_cases h3 : inW r (44032, 55203) = true
  · rw [h0, h1, h2, h3] at hb
    simp at hb
    subst hb
    exact rwide_3 r w h0 h1 h2 h3
  rw [Bool.not_eq_true] at h3
  by_cases h4 : inW r (63744, 64255) = true
  · rw [h0, h1, h2, h3, h4] at hb
    simp at hb
    subst hb
    exact rwide_4 r w h0 h1 h2 h3 h4
  rw [Bool.not_eq_true] at h4
  by_cases h5 : inW r (65072, 65103) = true
  · rw [h0, h1, h2, h3, h4, h5] at hb
    simp at hb
    subst hb
    exact rwide_5 r w h0 h1 h2 h3 h4 h5
  rw [Bool.not_eq_true] at h5
  by_cases h6 : inW r (65281, 65376) = true
  · rw [h0, h1, h2, h3, h4, h5, h6] at hb
    simp at hb
    subst hb
    exact rwide_6 r w h0 h1 h2 h3 h4 h5 h6
  rw [Bool.not_eq_true] at h6
  by_cases h7 : inW r (65504, 65510) = true
  · rw [h0, h1, h2, h3, h4, h5, h6, h7] at hb
    simp at hb
    subst hb
    exact rwide_7 r w h0 h1 h2 h3 h4 h5 h6 h7
  rw [Bool.not_eq_true] at h7
  by_cases h8 : inW r (127744, 128591) = true
  · rw [h0, h1, h2, h3, h4, h5, h6, h7, h8] at hb
    simp at hb
    subst hb
    exact rwide_8 r w h0 h1 h2 h3 h4 h5 h6 h7 h8
  rw [Bool.not_eq_true] at h8
  by_cases h9 : inW r (129280, 129535) = true
  · rw [h0, h1, h2, h3, h4, h5, h6, h7, h8, h9] at hb
    simp at hb
    subst hb
    exact rwide_9 r w h0 h1 h2 h3 h4 h5 h6 h7 h8 h9
  rw [Bool.not_eq_true] at h9
  by_cases h10 : inW r (131072, 262141) = true
  · rw [h0, h1, h2, h3, h4, h5, h6, h7, h8, h9, h10] at hb
    simp at hb
    subst hb
    exact rwide_10 r w h0 h1 h2 h3 h4 h5 h6 h7 h8 h9 h10
  rw [Bool.not_eq_true] at h10
  rw [h0, h1, h2, h3, h4, h5, h6, h7, h8, h9, h10] at hb
  simp at hb
  subst hb
  exact rwide_11 r w h0 h1 h2 h3 h4 h5 h6 h7 h8 h9 h10

end Go.Proofs.YtejcfhfmdijimaaDoor

/- Contracts of the document's answers for layer 8 (package stickfulref08): Collapses, is, End, white, soft, wide. Conditions: the styles lie where the slice says, and the character's node has one. -/
namespace Go.Proofs.YtejcfhfmdijimaaDoor
open Go.ChangeShapes Go.WideShapes Go.ChangeAt Go.RowKit
open Wh

set_option maxHeartbeats 2000000 in
theorem rcolls_any (s : Sty) (w : World) :
    Calls Tryd.prog 13 #[.agg s.cells] w fun e w' => e = .returned (.bool (collW s.a0)) ∧ Below w.heap.size w w' := by
  unfold Sty.cells
  obtain ⟨x, hx⟩ : ∃ x, s.a0 = x := ⟨_, rfl⟩
  rw [hx]
  clear hx
  by_cases h0 : x = 0
  · subst h0
    go_enter Tryd.func13, Tryd.ntmps13
    go_wp2
    go_ret
    exact ⟨retb (by decide), below_alloc _ _⟩
  · have e0 : (x == 0) = false := by simpa using h0
    by_cases h1 : x = 1
    · subst h1
      go_enter Tryd.func13, Tryd.ntmps13
      go_wp2
      go_ret
      exact ⟨retb (by decide), below_alloc _ _⟩
    · have e1 : (x == 1) = false := by simpa using h1
      by_cases h4 : x = 4
      · subst h4
        go_enter Tryd.func13, Tryd.ntmps13
        go_wp2
        go_ret
        exact ⟨retb (by decide), below_alloc _ _⟩
      · have e4 : (x == 4) = false := by simpa using h4
        go_enter Tryd.func13, Tryd.ntmps13
        go_wp2
        go_ret
        exact ⟨retb (by simp [collW, h0, h1, h4]), below_alloc _ _⟩

set_option maxHeartbeats 2000000 in
theorem ris_any (x : Cr) (r : Int) (w : World) :
    Calls Tryd.prog 55 #[.agg (chA x), .int .i32 r] w fun e w' => e = .returned (.bool (is x r)) ∧ Below w.heap.size w w' := by
  obtain ⟨xr, xn, xa, xl, xk⟩ := x
  have hv : is ⟨xr, xn, xa, xl, xk⟩ r = (decide (xk = 0) && decide (xr = r)) := rfl
  rw [hv]
  clear hv
  unfold chA
  dsimp only
  by_cases h0 : xk = 0
  · subst h0
    by_cases hr : xr = r
    · subst hr
      go_enter Tryd.func55, Tryd.ntmps55
      go_wp2
      go_ret
      exact ⟨retb (by simp), below_alloc _ _⟩
    · have er : (xr == r) = false := by simpa using hr
      go_enter Tryd.func55, Tryd.ntmps55
      go_wp2
      go_ret
      exact ⟨retb (by simp [hr]), below_alloc _ _⟩
  · have e0 : (xk == 0) = false := by simpa using h0
    go_enter Tryd.func55, Tryd.ntmps55
    go_wp2
    go_ret
    exact ⟨retb (by simp [h0]), below_alloc _ _⟩
theorem ris_is (x : Cr) (r : Int) (b : Bool) (hb : is x r = b) (w : World) : Calls Tryd.prog 55 #[.agg (chA x), .int .i32 r] w fun e w' => e = .returned (.bool b) ∧ Below w.heap.size w w' := hb ▸ ris_any x r w

set_option maxRecDepth 100000 in
set_option maxHeartbeats 4000000 in
theorem rend_any (x : Cr) (w : World) :
    Calls Tryd.prog 58 #[.agg (chA x)] w fun e w' => e = .returned (.bool (endc x)) ∧ Below w.heap.size w w' := by
  have hval : endc x = (is x 10 || is x 13) := rfl
  rw [hval]
  clear hval
  obtain ⟨c1, h1⟩ : ∃ q, is x 10 = q := ⟨_, rfl⟩
  obtain ⟨c2, h2⟩ : ∃ q, is x 13 = q := ⟨_, rfl⟩
  rw [h1, h2]
  have C1 := Lib.hid (ris_is x 10 c1 h1)
  have C2 := Lib.hid (ris_is x 13 c2 h2)
  clear h1 h2
  go_enter Tryd.func58, Tryd.ntmps58
  go_wp2_with (first | (refine bxCV rfl (.tmp 0) rfl x rfl ?_; intro v1 b1 B1) | (refine ldC rfl (.tmp 1) rfl _ rfl x B1.lies ?_))
  refine (C1.out _).mono ?_
  rintro e u2 ⟨rfl, d2⟩
  have B2 := B1.keep (S := fun _ => False) (Mod.of_below d2) id
  have t2 := below_seq b1 d2
  cases c1
  · go_wp2_with (first | (refine ldCIf (by kernel_rfl) (.tmp 1) rfl _ rfl x B2.lies ?_))
    refine (C2.out _).mono ?_
    rintro e u3 ⟨rfl, d3⟩
    go_wp2_with fail
    go_ret
    exact ⟨retb (by simp), below_seq t2 d3⟩
  · go_wp2_with fail
    go_ret
    exact ⟨retb (by simp), t2⟩
theorem rend_is (x : Cr) (b : Bool) (hb : endc x = b) (w : World) : Calls Tryd.prog 58 #[.agg (chA x)] w fun e w' => e = .returned (.bool b) ∧ Below w.heap.size w w' := hb ▸ rend_any x w

set_option maxRecDepth 100000 in
set_option maxHeartbeats 4000000 in
theorem rwht_any (x : Cr) (ss : List Sty) (sv : Value) (w : World) (hS : Ss w sv ss) (j : Nat) (s : Sty) (hj : x.node = j) (hs : ss[j]? = some s) :
    Calls Tryd.prog 54 #[.agg (chA x), sv] w fun e w' => e = .returned (.bool (wht (whF ss) x)) ∧ Below w.heap.size w w' := by
  have hval : wht (whF ss) x = (collW s.a0 && (is x 32 || is x 9)) := by unfold wht; rw [hj, whF_at hs]
  rw [hval]
  clear hval
  obtain ⟨c0, h0⟩ : ∃ q, collW s.a0 = q := ⟨_, rfl⟩
  obtain ⟨c1, h1⟩ : ∃ q, is x 32 = q := ⟨_, rfl⟩
  obtain ⟨c2, h2⟩ : ∃ q, is x 9 = q := ⟨_, rfl⟩
  rw [h0, h1, h2]
  have CC : Hid (∀ W, Calls Tryd.prog 13 #[.agg s.cells] W fun e w' => e = .returned (.bool c0) ∧ Below W.heap.size W w') := Lib.hid fun W => h0 ▸ rcolls_any s W
  have C1 := Lib.hid (ris_is x 32 c1 h1)
  have C2 := Lib.hid (ris_is x 9 c2 h2)
  clear h0 h1 h2
  have hjq : (j : Int) < ss.length := by have := (List.getElem?_eq_some_iff.1 hs).1; omega
  obtain ⟨a3, cap3, o3, hv, _, ha3, _⟩ := hS.get (Below.refl _ _) hs
  obtain ⟨q, hq⟩ : ∃ q, ss.length = q := ⟨_, rfl⟩
  have HSL : Hid (∀ W, Below w.heap.size w W → Lies W ⟨a3.block, o3, none⟩ s.cells) := Lib.hid fun W b => by
    obtain ⟨a4, cap4, o4, hv4, _, ha4, hL4⟩ := hS.get b hs
    rw [hv] at hv4
    injection hv4 with e1 e2 e3
    injection e1 with e1
    subst e1
    rw [ha3] at ha4
    injection ha4 with _ e4
    subst e4
    exact hL4
  rw [hq] at hv hjq
  subst hv
  have HJ := Lib.hid hj
  clear hS hs hj hq
  go_enter Tryd.func54, Tryd.ntmps54
  go_wp2_with (first | (refine bxCV rfl (.tmp 0) rfl x rfl ?_; intro v1 b1 B1; have q1 : v1.cell? ⟨w.heap.size, 1, none⟩ = some (.int .i64 (j : Nat)) := (B1.cell 1).trans (by show some (Value.int .i64 x.node) = _; rw [HJ.out]); have L1 := HSL.out _ b1) | (refine ldS rfl (.tmp 8) rfl _ rfl s L1 ?_))
  refine (CC.out _).mono ?_
  rintro e u2 ⟨rfl, d2⟩
  have B2 := B1.keep (S := fun _ => False) (Mod.of_below d2) id
  have t2 := below_seq b1 d2
  clear L1 q1
  cases c0
  · go_wp2_with fail
    go_ret
    exact ⟨retb (by simp), t2⟩
  · go_wp2_with (first | (refine ldCIf (by kernel_rfl) (.tmp 2) rfl _ rfl x B2.lies ?_))
    refine (C1.out _).mono ?_
    rintro e u3 ⟨rfl, d3⟩
    have B3 := B2.keep (S := fun _ => False) (Mod.of_below d3) id
    have t3 := below_seq t2 d3
    cases c1
    · go_wp2_with (first | (refine ldCIf (by kernel_rfl) (.tmp 2) rfl _ rfl x B3.lies ?_))
      refine (C2.out _).mono ?_
      rintro e u4 ⟨rfl, d4⟩
      go_wp2_with fail
      go_ret
      exact ⟨retb (by simp), below_seq t3 d4⟩
    · go_wp2_with fail
      go_ret
      exact ⟨retb (by simp), t3⟩

set_option maxRecDepth 100000 in
set_option maxHeartbeats 4000000 in
theorem rsoft_any (x : Cr) (ss : List Sty) (sv : Value) (w : World) (hS : Ss w sv ss) (j : Nat) (s : Sty) (hj : x.node = j) (hs : ss[j]? = some s) :
    Calls Tryd.prog 56 #[.agg (chA x), sv] w fun e w' => e = .returned (.bool (soft (whF ss) x)) ∧ Below w.heap.size w w' := by
  have hval : soft (whF ss) x = (endc x && (decide (s.a0 = 0) || decide (s.a0 = 1))) := by unfold soft; rw [hj, whF_at hs]
  rw [hval]
  clear hval
  obtain ⟨c1, h1⟩ : ∃ q, endc x = q := ⟨_, rfl⟩
  rw [h1]
  have C1 := Lib.hid (rend_is x c1 h1)
  obtain ⟨z, hz⟩ : ∃ z, s.a0 = z := ⟨_, rfl⟩
  rw [hz]
  have HZ := Lib.hid hz
  clear h1 hz
  have hjq : (j : Int) < ss.length := by have := (List.getElem?_eq_some_iff.1 hs).1; omega
  obtain ⟨a3, cap3, o3, hv, _, ha3, _⟩ := hS.get (Below.refl _ _) hs
  obtain ⟨q, hq⟩ : ∃ q, ss.length = q := ⟨_, rfl⟩
  have HSL : Hid (∀ W, Below w.heap.size w W → Lies W ⟨a3.block, o3, none⟩ s.cells) := Lib.hid fun W b => by
    obtain ⟨a4, cap4, o4, hv4, _, ha4, hL4⟩ := hS.get b hs
    rw [hv] at hv4
    injection hv4 with e1 e2 e3
    injection e1 with e1
    subst e1
    rw [ha3] at ha4
    injection ha4 with _ e4
    subst e4
    exact hL4
  rw [hq] at hv hjq
  subst hv
  have HJ := Lib.hid hj
  clear hS hs hj hq
  go_enter Tryd.func56, Tryd.ntmps56
  go_wp2_with (first | (refine bxCV rfl (.tmp 0) rfl x rfl ?_; intro v1 b1 B1) | (refine ldC rfl (.tmp 2) rfl _ rfl x B1.lies ?_))
  refine (C1.out _).mono ?_
  rintro e u2 ⟨rfl, d2⟩
  have B2 := B1.keep (S := fun _ => False) (Mod.of_below d2) id
  have t2 := below_seq b1 d2
  have q1 : u2.cell? ⟨w.heap.size, 1, none⟩ = some (.int .i64 (j : Nat)) := (B2.cell 1).trans (by show some (Value.int .i64 x.node) = _; rw [HJ.out])
  have q0 : u2.cell? ⟨a3.block, o3, none⟩ = some (.int .u8 z) := by
    have := HSL.out _ t2 0 _ rfl
    rw [Addr.add_lit, Nat.add_zero] at this
    rw [this, ← HZ.out]
    rfl
  cases c1
  · go_wp2_with fail
    go_ret
    exact ⟨retb (by simp), t2⟩
  · by_cases h0 : z = 0
    · subst h0
      go_wp2_with fail
      go_ret
      exact ⟨retb (by simp), t2⟩
    · have e0 : (z == 0) = false := by simpa using h0
      by_cases h1 : z = 1
      · subst h1
        go_wp2_with fail
        go_ret
        exact ⟨retb (by simp), t2⟩
      · have e1 : (z == 1) = false := by simpa using h1
        go_wp2_with fail
        go_ret
        exact ⟨retb (by simp [h0, h1]), t2⟩

set_option maxRecDepth 100000 in
set_option maxHeartbeats 4000000 in
theorem rwide_any (x : Cr) (w : World) :
    Calls Tryd.prog 67 #[.agg (chA x)] w fun e w' => e = .returned (.bool (wide wideB x)) ∧ Below w.heap.size w w' := by
  have hval : wide wideB x = (decide (x.kind = 0) && !endc x && wideB x.r) := rfl
  rw [hval]
  clear hval
  obtain ⟨c1, h1⟩ : ∃ q, endc x = q := ⟨_, rfl⟩
  rw [h1]
  have C1 := Lib.hid (rend_is x c1 h1)
  obtain ⟨z, hz⟩ : ∃ z, x.kind = z := ⟨_, rfl⟩
  rw [hz]
  have HZ := Lib.hid hz
  obtain ⟨r, hr⟩ : ∃ z, x.r = z := ⟨_, rfl⟩
  rw [hr]
  have HR := Lib.hid hr
  obtain ⟨c2, h2⟩ : ∃ q, wideB r = q := ⟨_, rfl⟩
  rw [h2]
  have C2 := Lib.hid (fun w => rwide_is r w c2 h2)
  clear h1 hz hr h2
  by_cases h0 : z = 0
  · subst h0
    go_enter Tryd.func67, Tryd.ntmps67
    go_wp2_with (first | (refine bxCV rfl (.tmp 0) rfl x rfl ?_; intro v1 b1 B1; have q4 : v1.cell? ⟨w.heap.size, 4, none⟩ = some (.int .u8 0) := (B1.cell 4).trans (by show some (Value.int .u8 x.kind) = _; rw [HZ.out])) | (refine ldCIf (by kernel_rfl) (.tmp 1) rfl _ rfl x B1.lies ?_))
    refine (C1.out _).mono ?_
    rintro e u2 ⟨rfl, d2⟩
    have B2 := B1.keep (S := fun _ => False) (Mod.of_below d2) id
    have t2 := below_seq b1 d2
    have q0 : u2.cell? ⟨w.heap.size, 0, none⟩ = some (.int .i32 r) := (B2.cell 0).trans (by show some (Value.int .i32 x.r) = _; rw [HR.out])
    clear q4
    cases c1
    · go_wp2_with fail
      refine (C2.out _).mono ?_
      rintro e u3 ⟨rfl, rfl⟩
      go_wp2_with fail
      go_ret
      exact ⟨retb (by simp), t2⟩
    · go_wp2_with fail
      go_ret
      exact ⟨retb (by simp), t2⟩
  · have e0 : (z == 0) = false := by simpa using h0
    go_enter Tryd.func67, Tryd.ntmps67
    go_wp2_with (first | (refine bxCV rfl (.tmp 0) rfl x rfl ?_; intro v1 b1 B1; have q4 : v1.cell? ⟨w.heap.size, 4, none⟩ = some (.int .u8 z) := (B1.cell 4).trans (by show some (Value.int .u8 x.kind) = _; rw [HZ.out])))
    go_ret
    exact ⟨retb (by simp [h0]), b1⟩
end Go.Proofs.YtejcfhfmdijimaaDoor

/- Contracts of the document's answers for layer 8 (package stickfulref08): May, pairs, rows. Conditions: the lists lie where the slices say, at most 1048576 elements; each node has a style. -/
namespace Go.Proofs.YtejcfhfmdijimaaDoor
open Go.ChangeShapes Go.WideShapes Go.ChangeAt Go.RowKit
open Wh


theorem atR_of {l : List Cr} {i : Nat} (h : i < l.length) : ∃ x, l[i]? = some x := ⟨_, List.getElem?_eq_getElem h⟩
/-- each character's node has a style -/
def NdOk (ss : List Sty) (l : List Cr) : Prop := ∀ c ∈ l, ∃ (j : Nat) (s : Sty), c.node = j ∧ ss[j]? = some s
theorem NdOk.of_may {ss : List Sty} {l : List Cr} (h : mayB ss l = true) : NdOk ss l := fun c hc => by
  obtain ⟨_, j, s, h1, h2, _⟩ := okC_split.1 (List.all_eq_true.1 h c hc)
  exact ⟨j, s, h1, h2⟩
theorem NdOk.sub {ss : List Sty} {l m : List Cr} (h : NdOk ss l) (hs : ∀ c ∈ m, c ∈ l) : NdOk ss m := fun c hc => h c (hs c hc)
theorem may_all {ss : List Sty} {l : List Cr} {n : Nat} (hn : l.length = n) (h : ∀ i c, i < n → l[i]? = some c → okC ss c = true) : mayB ss l = true := List.all_eq_true.2 fun c hc => by
  obtain ⟨i, hi⟩ := List.mem_iff_getElem?.1 hc
  exact h i c (by rw [← hn]; exact (List.getElem?_eq_some_iff.1 hi).1) hi

set_option maxRecDepth 100000 in
set_option maxHeartbeats 8000000 in
theorem rmay_any (l : List Cr) (v : Value) (ss : List Sty) (sv : Value) (w : World) (hR : RwC w v l) (hS : Ss w sv ss) (hn : l.length ≤ 1048576) :
    Calls Tryd.prog 25 #[v, sv] w fun e w' => e = .returned (.bool (mayB ss l)) ∧ w = w' := by
  have H1 := Lib.hid hR
  have HS := Lib.hid hS
  obtain ⟨A, c, hv0⟩ := hR.form
  obtain ⟨B, c3, hv3⟩ := Ss.form hS
  obtain ⟨n, hl⟩ : ∃ n, l.length = n := ⟨_, rfl⟩
  have HL := Lib.hid hl
  obtain ⟨q, hq⟩ : ∃ n, ss.length = n := ⟨_, rfl⟩
  have HQ := Lib.hid hq
  rw [hl] at hn hv0
  rw [hq] at hv3
  obtain ⟨b0, hb0⟩ : ∃ b, mayB ss l = b := ⟨_, rfl⟩
  have HBB := Lib.hid hb0
  rw [hb0]
  subst hv0 hv3
  clear hR hS hl hq hb0
  go_enter Tryd.func25, Tryd.ntmps25
  go_wp2_with fail
  go_loopg [5] n (fun kx s5 wr => ∃ k : Nat, s5 = .int .i64 k ∧ k ≤ n ∧ kx = n - k ∧ w = wr ∧ Hid (∀ i c, i < k → l[i]? = some c → okC ss c = true))
  case atStart => exact ⟨0, rfl, by omega, by omega, rfl, Lib.hid fun i c hi => by omega⟩
  case round =>
    obtain ⟨k, rfl, hk, rfl, rfl, HI⟩ := hrel
    by_cases hlt : k < n
    · have hz : (k : Int) < n := by omega
      obtain ⟨x, hx⟩ := atR_of (l := l) (i := k) (by rw [HL.out]; exact hlt)
      obtain ⟨a1, cap1, o1, hv, _, ha1, hL1⟩ := H1.out.get (Below.refl _ _) hx
      rw [HL.out] at hv
      injection hv with hv1 hv2 hv3
      subst hv1 hv3
      have HX := Lib.hid hx
      have q1 : w.cell? ⟨a1.block, o1 + 1, none⟩ = some (.int .i64 x.node) := by have := hL1 1 _ rfl; rwa [Addr.add_lit] at this
      have q4 : w.cell? ⟨a1.block, o1 + 4, none⟩ = some (.int .u8 x.kind) := by have := hL1 4 _ rfl; rwa [Addr.add_lit] at this
      have HNO : Hid (okC ss x = false → b0 = false) := Lib.hid fun h => by rw [← HBB.out]; exact may_take HX.out h
      have HST : Hid (okC ss x = true → ∀ i c, i < k + 1 → l[i]? = some c → okC ss c = true) := Lib.hid fun h i c hi hc => by
        by_cases e : i = k
        · subst e; rw [HX.out] at hc; cases hc; exact h
        · exact HI.out i c (by omega) hc
      obtain ⟨nd, hnd⟩ : ∃ z, x.node = z := ⟨_, rfl⟩
      obtain ⟨kd, hkd⟩ : ∃ z, x.kind = z := ⟨_, rfl⟩
      have HOK : okC ss x = ((decide (kd = 0) || decide (kd = 6) || decide (kd = 5)) && (!decide (nd < 0) && (!decide ((q : Int) ≤ nd) && !decide (5 < whF ss nd)))) := by unfold okC; rw [hnd, hkd, HQ.out]
      rw [HOK] at HNO
      have HST2 : Hid (((decide (kd = 0) || decide (kd = 6) || decide (kd = 5)) && (!decide (nd < 0) && (!decide ((q : Int) ≤ nd) && !decide (5 < whF ss nd)))) = true → ∀ i c, i < k + 1 → l[i]? = some c → okC ss c = true) := Lib.hid fun h => HST.out (HOK.trans h)
      rw [hnd] at q1
      rw [hkd] at q4
      clear hv2 hx hL1 hnd hkd HOK HST
      by_cases hneg : nd < 0
      · have HF := Lib.hid (HNO.out (by simp [hneg]))
        clear HNO HST2 HI
        go_wp2_with fail
        go_ret
        exact ⟨retb HF.out.symm, rfl⟩
      by_cases hge : (q : Int) ≤ nd
      · have HF := Lib.hid (HNO.out (by simp [hge]))
        clear HNO HST2 HI
        go_wp2_with fail
        go_ret
        exact ⟨retb HF.out.symm, rfl⟩
      obtain ⟨j, rfl⟩ : ∃ j : Nat, nd = j := ⟨nd.toNat, by omega⟩
      have hjq : (j : Int) < q := by omega
      obtain ⟨s, hs⟩ : ∃ s, ss[j]? = some s := ⟨_, List.getElem?_eq_getElem (by rw [HQ.out]; omega)⟩
      obtain ⟨a3, cap3, o3, hv, _, ha3, hL3⟩ := HS.out.get (Below.refl _ _) hs
      rw [HQ.out] at hv
      injection hv with hv1 hv4 hv3
      subst hv1 hv3
      have q0 : w.cell? ⟨a3.block, o3, none⟩ = some (.int .u8 s.a0) := by have := hL3 0 _ rfl; rwa [Addr.add_lit, Nat.add_zero] at this
      rw [whF_at hs] at HNO HST2
      obtain ⟨z, hzz⟩ : ∃ z, s.a0 = z := ⟨_, rfl⟩
      rw [hzz] at q0 HNO HST2
      clear hv4 hL3 hs hzz
      by_cases h5 : 5 < z
      · have HF := Lib.hid (HNO.out (by simp [h5]))
        clear HNO HST2 HI
        go_wp2_with fail
        go_ret
        exact ⟨retb HF.out.symm, rfl⟩
      by_cases k0 : kd = 0
      · subst k0
        have HI2 := Lib.hid (HST2.out (by simp; omega))
        clear HNO HST2 HI
        go_wp2_with fail
        go_roundg (n - (k + 1))
        case measure => omega
        case rel => exact ⟨k + 1, by go_num, by omega, rfl, rfl, HI2⟩
      have e0 : (kd == 0) = false := by simpa using k0
      by_cases k5 : kd = 5
      · subst k5
        have HI2 := Lib.hid (HST2.out (by simp; omega))
        clear HNO HST2 HI
        go_wp2_with fail
        go_roundg (n - (k + 1))
        case measure => omega
        case rel => exact ⟨k + 1, by go_num, by omega, rfl, rfl, HI2⟩
      have e5 : (kd == 5) = false := by simpa using k5
      by_cases k6 : kd = 6
      · subst k6
        have HI2 := Lib.hid (HST2.out (by simp; omega))
        clear HNO HST2 HI
        go_wp2_with fail
        go_roundg (n - (k + 1))
        case measure => omega
        case rel => exact ⟨k + 1, by go_num, by omega, rfl, rfl, HI2⟩
      have e6 : (kd == 6) = false := by simpa using k6
      have n0 : (kd != 0) = true := by simpa using k0
      have n5 : (kd != 5) = true := by simpa using k5
      have n6 : (kd != 6) = true := by simpa using k6
      have HF := Lib.hid (HNO.out (by simp [k0, k5, k6]))
      clear HNO HST2 HI
      go_wp2_with fail
      go_ret
      exact ⟨retb HF.out.symm, rfl⟩
    · obtain rfl : n = k := by omega
      have HF : Hid (b0 = true) := Lib.hid (by rw [← HBB.out]; exact may_all HL.out HI.out)
      go_wp2_with fail
      go_ret
      exact ⟨retb HF.out.symm, rfl⟩

set_option maxRecDepth 100000 in
set_option maxHeartbeats 8000000 in
theorem rpairs_any (l : List Cr) (v : Value) (w : World) (hR : RwC w v l) (hn : l.length ≤ 1048576) :
    Calls Tryd.prog 31 #[v] w fun e w' => ∃ u, e = .returned u ∧ OwC w.heap.size w' u (pairs l) ∧ Below w.heap.size w w' := by
  have H1 := Lib.hid hR
  obtain ⟨A, c, hv0⟩ := hR.form
  obtain ⟨n, hl⟩ : ∃ n, l.length = n := ⟨_, rfl⟩
  have HL := Lib.hid hl
  have HV0 := Lib.hid hv0
  rw [hl] at hn hv0
  obtain ⟨res, hres⟩ : ∃ r, pairs l = r := ⟨_, rfl⟩
  rw [hres]
  have H0 : Hid ([] ++ pairs (l.drop 0) = res) := Lib.hid (by rw [← hres]; rfl)
  clear hR hl hres
  subst hv0
  go_enter Tryd.func31, Tryd.ntmps31
  go_wp2_with fail
  have O0 : OwC w.heap.size w (.slice none 0 0) [] := World.ownsRow_nil _ _ _ _
  go_loopg [3, 4] n (fun kx s3 s4 wr => ∃ (k : Nat) (u : Value) (acc : List Cr), u = s3 ∧ s4 = .int .i64 k ∧ k ≤ n ∧ kx = n - k ∧ acc.length ≤ k ∧ OwC w.heap.size wr u acc ∧ Below w.heap.size w wr ∧ Hid (acc ++ pairs (l.drop k) = res))
  case atStart => exact ⟨0, _, [], rfl, rfl, by omega, by omega, by simp, O0, Below.refl _ _, H0⟩
  case round =>
    clear O0 H0
    obtain ⟨k, u, acc, rfl, rfl, hk, rfl, hal, O, b, HA⟩ := hrel
    by_cases hkm : k < n
    · have hkz : (k : Int) < n := by omega
      obtain ⟨x, hx⟩ := atR_of (l := l) (i := k) (by rw [HL.out]; exact hkm)
      obtain ⟨a1, capa1, o1, hv, _, ha1, hLa1⟩ := H1.out.get b hx
      rw [HL.out] at hv
      injection hv with hv1 hv2 hv3
      subst hv1 hv3
      have HAL := Lib.hid hal
      have HX := Lib.hid hx
      have HLX := Lib.hid hLa1
      have HO := Lib.hid O
      have HB := Lib.hid b
      have hbs := b.size
      clear hv2 hx hLa1 O b
      obtain ⟨c1, h1⟩ : ∃ b, is x 13 = b := ⟨_, rfl⟩
      have C1 := Lib.hid (ris_is x 13 c1 h1)
      have HC1 := Lib.hid h1
      clear h1
      have L1 := HLX.out
      go_wp2_with (first | (refine ldC rfl (.tmp 13) rfl _ rfl x L1 ?_))
      refine (C1.out _).mono ?_
      rintro e u2 ⟨rfl, d2⟩
      clear L1
      cases c1 with
      | true =>
        by_cases hlast : k + 1 = n
        · have HE := Lib.hid hlast
          have hkl : ((k : Int) + 1 == (n : Int)) = true := by simp; omega
          clear hlast
          have HAK : Hid ((acc ++ [x]) ++ pairs (l.drop (k + 1)) = res) := Lib.hid (by have := HA.out; rw [pairs_at HX.out] at this; rw [hdIs_end (by rw [HL.out]; exact Nat.le_of_eq HE.out.symm), Bool.and_false] at this; simpa using this)
          have O2 := HO.out.below d2
          have hb2 := HB.out.trans (d2.mono hbs)
          have L2 := HLX.out.below d2
          have hbs2 := hb2.size
          have HB2 := Lib.hid hb2
          clear HA
          go_wp2_with (first | (refine ldC rfl (.tmp 36) rfl _ rfl x L2 ?_) | (refine apC (o1 := ⟨some 38, _, _, _, _, _⟩) rfl (.tmp 37) rfl 38 rfl rfl (.tmp 33) rfl x rfl _ (fun _ => rfl) (fun _ => rfl) w.heap.size acc.length _ O2 (by omega) hbs2 ?_; intro u4 v5 w5 O5 b5; refine Mk.out ?_))
          constructor
          have O6 : OwC w.heap.size w5 v5 (acc ++ [x]) := by unfold OwC; rw [List.length_append, flatC_snoc]; exact O5
          have b6 := HB2.out.trans b5
          clear O5 b5 O2 hb2 L2
          go_wp2_with fail
          go_roundg (n - (k + 1))
          case measure => omega
          case rel => exact ⟨k + 1, _, acc ++ [x], rfl, by go_num, by omega, by omega, (by have := HAL.out; rw [List.length_append]; show acc.length + 1 ≤ _; omega), O6, b6, HAK⟩
        · have hkl : ((k : Int) + 1 == (n : Int)) = false := by simp; omega
          have hk1 : (k : Int) + 1 < n := by omega
          obtain ⟨y, hy⟩ := atR_of (l := l) (i := k + 1) (by rw [HL.out]; omega)
          obtain ⟨a2, capa2, o2, hv, _, ha2, hLa2⟩ := H1.out.get (below_seq HB.out d2) hy
          rw [HL.out] at hv
          injection hv with hv1 hv2 hv3
          injection hv1 with hv1
          subst hv1
          obtain ⟨c2, h2⟩ : ∃ b, is y 10 = b := ⟨_, rfl⟩
          have C2 := Lib.hid (ris_is y 10 c2 h2)
          have HC2 := Lib.hid h2
          have HY := Lib.hid hy
          have HLY := Lib.hid hLa2
          clear h2 hy hv2 hv3 hLa2
          have L1 := HLY.out
          go_wp2_with (first | (refine ldCIf (by kernel_rfl) (.tmp 28) rfl _ rfl y L1 ?_))
          refine (C2.out _).mono ?_
          rintro e u3 ⟨rfl, d3⟩
          have d4 := below_seq d2 d3
          clear L1
          cases c2 with
          | true =>
            have HAD : Hid (acc ++ pairs (l.drop (k + 1)) = res) := Lib.hid (by have := HA.out; rw [pairs_at HX.out] at this; rw [HC1.out, hdIs_at HY.out, HC2.out] at this; exact this)
            clear HA
            go_wp2_with fail
            go_roundg (n - (k + 1))
            case measure => omega
            case rel => exact ⟨k + 1, _, acc, rfl, by go_num, by omega, by omega, by omega, HO.out.below d4, HB.out.trans (d4.mono hbs), HAD⟩
          | false =>
            have HAK : Hid ((acc ++ [x]) ++ pairs (l.drop (k + 1)) = res) := Lib.hid (by have := HA.out; rw [pairs_at HX.out] at this; rw [HC1.out, hdIs_at HY.out, HC2.out] at this; simpa using this)
            have O2 := HO.out.below d4
            have hb2 := HB.out.trans (d4.mono hbs)
            have L2 := HLX.out.below d4
            have hbs2 := hb2.size
            have HB2 := Lib.hid hb2
            clear HA
            go_wp2_with (first | (refine ldC rfl (.tmp 36) rfl _ rfl x L2 ?_) | (refine apC (o1 := ⟨some 38, _, _, _, _, _⟩) rfl (.tmp 37) rfl 38 rfl rfl (.tmp 33) rfl x rfl _ (fun _ => rfl) (fun _ => rfl) w.heap.size acc.length _ O2 (by omega) hbs2 ?_; intro u4 v5 w5 O5 b5; refine Mk.out ?_))
            constructor
            have O6 : OwC w.heap.size w5 v5 (acc ++ [x]) := by unfold OwC; rw [List.length_append, flatC_snoc]; exact O5
            have b6 := HB2.out.trans b5
            clear O5 b5 O2 hb2 L2
            go_wp2_with fail
            go_roundg (n - (k + 1))
            case measure => omega
            case rel => exact ⟨k + 1, _, acc ++ [x], rfl, by go_num, by omega, by omega, (by have := HAL.out; rw [List.length_append]; show acc.length + 1 ≤ _; omega), O6, b6, HAK⟩
      | false =>
        have HAK : Hid ((acc ++ [x]) ++ pairs (l.drop (k + 1)) = res) := Lib.hid (by have := HA.out; rw [pairs_at HX.out] at this; rw [HC1.out] at this; simpa using this)
        have O2 := HO.out.below d2
        have hb2 := HB.out.trans (d2.mono hbs)
        have L2 := HLX.out.below d2
        have hbs2 := hb2.size
        have HB2 := Lib.hid hb2
        clear HA
        go_wp2_with (first | (refine ldC rfl (.tmp 36) rfl _ rfl x L2 ?_) | (refine apC (o1 := ⟨some 38, _, _, _, _, _⟩) rfl (.tmp 37) rfl 38 rfl rfl (.tmp 33) rfl x rfl _ (fun _ => rfl) (fun _ => rfl) w.heap.size acc.length _ O2 (by omega) hbs2 ?_; intro u4 v5 w5 O5 b5; refine Mk.out ?_))
        constructor
        have O6 : OwC w.heap.size w5 v5 (acc ++ [x]) := by unfold OwC; rw [List.length_append, flatC_snoc]; exact O5
        have b6 := HB2.out.trans b5
        clear O5 b5 O2 hb2 L2
        go_wp2_with fail
        go_roundg (n - (k + 1))
        case measure => omega
        case rel => exact ⟨k + 1, _, acc ++ [x], rfl, by go_num, by omega, by omega, (by have := HAL.out; rw [List.length_append]; show acc.length + 1 ≤ _; omega), O6, b6, HAK⟩
    · obtain rfl : n = k := by omega
      have HF : Hid (acc = res) := Lib.hid (by have := HA.out; rw [drop_end (by rw [HL.out]; exact Nat.le_refl _)] at this; simpa [pairs] using this)
      have HO : Hid (OwC w.heap.size wr u res) := Lib.hid (HF.out ▸ O)
      clear HF O
      go_wp2_with fail
      go_ret
      exact ⟨_, rfl, HO.out, b⟩

set_option maxRecDepth 100000 in
set_option maxHeartbeats 8000000 in
theorem rrows_any (l : List Cr) (v : Value) (ss : List Sty) (sv : Value) (w : World) (hR : RwC w v l) (hS : Ss w sv ss) (hN : NdOk ss l) (hn : l.length ≤ 1048576) :
    Calls Tryd.prog 27 #[v, sv] w fun e w' => ∃ u, e = .returned u ∧ OwC w.heap.size w' u (rows (whF ss) false l) ∧ Below w.heap.size w w' := by
  have H1 := Lib.hid hR
  have HS := Lib.hid hS
  have HN := Lib.hid hN
  obtain ⟨W, hW⟩ : ∃ W, whF ss = W := ⟨_, rfl⟩
  have HW := Lib.hid hW
  obtain ⟨A, c, hv0⟩ := hR.form
  obtain ⟨n, hl⟩ : ∃ n, l.length = n := ⟨_, rfl⟩
  have HL := Lib.hid hl
  have HV0 := Lib.hid hv0
  rw [hl] at hn hv0
  obtain ⟨res, hres⟩ : ∃ r, rows (whF ss) false l = r := ⟨_, rfl⟩
  rw [hres]
  have H0 : Hid ([] ++ rows W (pB (wht W) l 0) (l.drop 0) = res) := Lib.hid (by rw [← hres, ← hW]; rfl)
  clear hR hl hres hS hN hW
  subst hv0
  go_enter Tryd.func27, Tryd.ntmps27
  go_wp2_with fail
  have O0 : OwC w.heap.size w (.slice none 0 0) [] := World.ownsRow_nil _ _ _ _
  go_loopg [5, 6] n (fun kx s5 s6 wr => ∃ (k : Nat) (u : Value) (acc : List Cr), u = s5 ∧ s6 = .int .i64 k ∧ k ≤ n ∧ kx = n - k ∧ acc.length ≤ k ∧ OwC w.heap.size wr u acc ∧ Below w.heap.size w wr ∧ Hid (acc ++ rows W (pB (wht W) l k) (l.drop k) = res))
  case atStart => exact ⟨0, _, [], rfl, rfl, by omega, by omega, by simp, O0, Below.refl _ _, H0⟩
  case round =>
    clear O0 H0
    obtain ⟨k, u, acc, rfl, rfl, hk, rfl, hal, O, b, HA⟩ := hrel
    by_cases hkm : k < n
    · have hkz : (k : Int) < n := by omega
      obtain ⟨x, hx⟩ := atR_of (l := l) (i := k) (by rw [HL.out]; exact hkm)
      obtain ⟨a1, capa1, o1, hv, _, ha1, hLa1⟩ := H1.out.get b hx
      rw [HL.out] at hv
      injection hv with hv1 hv2 hv3
      subst hv1 hv3
      have HAL := Lib.hid hal
      have HX := Lib.hid hx
      have HLX := Lib.hid hLa1
      have HO := Lib.hid O
      have HB := Lib.hid b
      have hbs := b.size
      obtain ⟨j, s, hj, hs⟩ := HN.out x (List.mem_of_getElem? hx)
      have HJ := Lib.hid hj
      have HSJ := Lib.hid hs
      have HSW : Hid (∀ X, Below wr.heap.size wr X → Ss X sv ss) := Lib.hid fun X h => HS.out.below (below_seq HB.out h)
      clear hv2 hx hLa1 O b hj hs
      by_cases hk0 : k = 0
      · subst hk0
        have HAK : Hid ((acc ++ [x]) ++ rows W (pB (wht W) l (0 + 1)) (l.drop (0 + 1)) = res) := Lib.hid (by have := HA.out; rw [rows_at HX.out, pB_zero, Bool.and_false] at this; simpa using this)
        have O2 := HO.out.below (Below.refl _ _)
        have hb2 := HB.out.trans ((Below.refl _ _).mono hbs)
        have L2 := HLX.out
        have hbs2 := hb2.size
        have HB2 := Lib.hid hb2
        clear HA
        go_wp2_with (first | (refine ldC rfl (.tmp 37) rfl _ rfl x L2 ?_) | (refine apC (o1 := ⟨some 39, _, _, _, _, _⟩) rfl (.tmp 38) rfl 39 rfl rfl (.tmp 34) rfl x rfl _ (fun _ => rfl) (fun _ => rfl) w.heap.size acc.length _ O2 (by omega) hbs2 ?_; intro u4 v5 w5 O5 b5; refine Mk.out ?_))
        constructor
        have O6 : OwC w.heap.size w5 v5 (acc ++ [x]) := by unfold OwC; rw [List.length_append, flatC_snoc]; exact O5
        have b6 := HB2.out.trans b5
        clear O5 b5 O2 hb2 L2
        go_wp2_with fail
        go_roundg (n - (0 + 1))
        case measure => omega
        case rel => exact ⟨0 + 1, _, acc ++ [x], rfl, by go_num, by omega, by omega, (by have := HAL.out; rw [List.length_append]; show acc.length + 1 ≤ _; omega), O6, b6, HAK⟩
      · obtain ⟨q1, rfl⟩ : ∃ q1, k = q1 + 1 := ⟨k - 1, by omega⟩
        have hqz : (((q1 : Int) + 1) == 0) = false := by simp; omega
        have hzq : (q1 : Int) < n := by omega
        obtain ⟨c1, hc1⟩ : ∃ b, wht W x = b := ⟨_, rfl⟩
        have HC1 := Lib.hid hc1
        have Cc1 : Hid (∀ X, Below wr.heap.size wr X → Calls Tryd.prog 54 #[.agg (chA x), sv] X fun e w' => e = .returned (.bool c1) ∧ Below X.heap.size X w') := Lib.hid fun X h => by have := rwht_any x ss sv X (HSW.out X h) j s HJ.out HSJ.out; rwa [HW.out, HC1.out] at this
        clear hc1
        have L1 := HLX.out
        go_wp2_with (first | (refine ldCIf (by kernel_rfl) (.tmp 18) rfl _ rfl x L1 ?_))
        refine (Cc1.out _ (Below.refl _ _)).mono ?_
        rintro e u2 ⟨rfl, d2⟩
        clear L1
        cases c1 with
        | true =>
          obtain ⟨y, hy⟩ := atR_of (l := l) (i := q1) (by rw [HL.out]; omega)
          obtain ⟨a2, capa2, o2, hv, _, ha2, hLa2⟩ := H1.out.get (below_seq HB.out d2) hy
          rw [HL.out] at hv
          injection hv with hv1 hv2 hv3
          injection hv1 with hv1
          subst hv1
          obtain ⟨j2, s2, hj2, hs2⟩ := HN.out y (List.mem_of_getElem? hy)
          have HJ2 := Lib.hid hj2
          have HSJ2 := Lib.hid hs2
          have HY := Lib.hid hy
          have HLY := Lib.hid hLa2
          clear hj2 hs2 hy hv2 hv3 hLa2
          obtain ⟨c2, hc2⟩ : ∃ b, wht W y = b := ⟨_, rfl⟩
          have HC2 := Lib.hid hc2
          have Cc2 : Hid (∀ X, Below wr.heap.size wr X → Calls Tryd.prog 54 #[.agg (chA y), sv] X fun e w' => e = .returned (.bool c2) ∧ Below X.heap.size X w') := Lib.hid fun X h => by have := rwht_any y ss sv X (HSW.out X h) j2 s2 HJ2.out HSJ2.out; rwa [HW.out, HC2.out] at this
          clear hc2
          have L1 := HLY.out
          go_wp2_with (first | (refine ldCIf (by kernel_rfl) (.tmp 28) rfl _ rfl y L1 ?_))
          refine (Cc2.out _ d2).mono ?_
          rintro e u3 ⟨rfl, d3⟩
          have d4 := below_seq d2 d3
          clear L1
          cases c2 with
          | true =>
            have HAD : Hid (acc ++ rows W (pB (wht W) l (q1 + 1 + 1)) (l.drop (q1 + 1 + 1)) = res) := Lib.hid (by have := HA.out; rw [rows_at HX.out] at this; rw [HC1.out, pB_succ HY.out, HC2.out] at this; exact this)
            clear HA
            go_wp2_with fail
            go_roundg (n - (q1 + 1 + 1))
            case measure => omega
            case rel => exact ⟨q1 + 1 + 1, _, acc, rfl, by go_num, by omega, by omega, by omega, HO.out.below d4, HB.out.trans (d4.mono hbs), HAD⟩
          | false =>
            have HAK : Hid ((acc ++ [x]) ++ rows W (pB (wht W) l (q1 + 1 + 1)) (l.drop (q1 + 1 + 1)) = res) := Lib.hid (by have := HA.out; rw [rows_at HX.out] at this; rw [HC1.out, pB_succ HY.out, HC2.out] at this; simpa using this)
            have O2 := HO.out.below d4
            have hb2 := HB.out.trans (d4.mono hbs)
            have L2 := HLX.out.below d4
            have hbs2 := hb2.size
            have HB2 := Lib.hid hb2
            clear HA
            go_wp2_with (first | (refine ldC rfl (.tmp 37) rfl _ rfl x L2 ?_) | (refine apC (o1 := ⟨some 39, _, _, _, _, _⟩) rfl (.tmp 38) rfl 39 rfl rfl (.tmp 34) rfl x rfl _ (fun _ => rfl) (fun _ => rfl) w.heap.size acc.length _ O2 (by omega) hbs2 ?_; intro u4 v5 w5 O5 b5; refine Mk.out ?_))
            constructor
            have O6 : OwC w.heap.size w5 v5 (acc ++ [x]) := by unfold OwC; rw [List.length_append, flatC_snoc]; exact O5
            have b6 := HB2.out.trans b5
            clear O5 b5 O2 hb2 L2
            go_wp2_with fail
            go_roundg (n - (q1 + 1 + 1))
            case measure => omega
            case rel => exact ⟨q1 + 1 + 1, _, acc ++ [x], rfl, by go_num, by omega, by omega, (by have := HAL.out; rw [List.length_append]; show acc.length + 1 ≤ _; omega), O6, b6, HAK⟩
        | false =>
          have HAK : Hid ((acc ++ [x]) ++ rows W (pB (wht W) l (q1 + 1 + 1)) (l.drop (q1 + 1 + 1)) = res) := Lib.hid (by have := HA.out; rw [rows_at HX.out] at this; rw [HC1.out] at this; simpa using this)
          have O2 := HO.out.below d2
          have hb2 := HB.out.trans (d2.mono hbs)
          have L2 := HLX.out.below d2
          have hbs2 := hb2.size
          have HB2 := Lib.hid hb2
          clear HA
          go_wp2_with (first | (refine ldC rfl (.tmp 37) rfl _ rfl x L2 ?_) | (refine apC (o1 := ⟨some 39, _, _, _, _, _⟩) rfl (.tmp 38) rfl 39 rfl rfl (.tmp 34) rfl x rfl _ (fun _ => rfl) (fun _ => rfl) w.heap.size acc.length _ O2 (by omega) hbs2 ?_; intro u4 v5 w5 O5 b5; refine Mk.out ?_))
          constructor
          have O6 : OwC w.heap.size w5 v5 (acc ++ [x]) := by unfold OwC; rw [List.length_append, flatC_snoc]; exact O5
          have b6 := HB2.out.trans b5
          clear O5 b5 O2 hb2 L2
          go_wp2_with fail
          go_roundg (n - (q1 + 1 + 1))
          case measure => omega
          case rel => exact ⟨q1 + 1 + 1, _, acc ++ [x], rfl, by go_num, by omega, by omega, (by have := HAL.out; rw [List.length_append]; show acc.length + 1 ≤ _; omega), O6, b6, HAK⟩
    · obtain rfl : n = k := by omega
      have HF : Hid (acc = res) := Lib.hid (by have := HA.out; rw [drop_end (by rw [HL.out]; exact Nat.le_refl _)] at this; simpa [rows] using this)
      have HO : Hid (OwC w.heap.size wr u res) := Lib.hid (HF.out ▸ O)
      clear HF O
      go_wp2_with fail
      go_ret
      exact ⟨_, rfl, HO.out, b⟩

end Go.Proofs.YtejcfhfmdijimaaDoor
