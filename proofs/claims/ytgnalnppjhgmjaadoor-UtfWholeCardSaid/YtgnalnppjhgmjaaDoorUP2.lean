/- Contract of package utf's test of one byte (method allows of a form). -/
import Derived.Test.YtgnalnppjhgmjaaDoorU9
namespace Go.Proofs.YtgnalnppjhgmjaaDoor
open Go.ChangeShapes Go.WideShapes Go.ChangeAt Go.RowKit

/-- may c stand at the place n of a row whose second byte goes from lo to hi? -/
def alw (lo hi n c : Nat) : Bool := if n = 1 then decide (lo ≤ c ∧ c ≤ hi) else decide (128 ≤ c ∧ c ≤ 191)

set_option maxRecDepth 100000 in
set_option maxHeartbeats 2000000 in
theorem allows_any (f l lo hi mk m n c : Nat) (w : World) (h3 : n ≤ 4) (h4 : c ≤ 255) :
    Calls Tryd.prog 31 #[.agg #[.int .u8 f, .int .u8 l, .int .u8 lo, .int .u8 hi, .int .u8 mk, .int .i64 m], .int .i64 n, .int .u8 c] w
      fun e w' => e = .returned (.bool (alw lo hi n c)) ∧ Below w.heap.size w w' := by
  by_cases hn : n = 1
  · subst hn
    by_cases ha : lo ≤ c
    · have haz : (lo : Int) ≤ (c : Int) := by omega
      by_cases hb : c ≤ hi
      · have hbz : (c : Int) ≤ (hi : Int) := by omega
        have hr : alw lo hi 1 c = true := by simp [alw, ha, hb]
        rw [hr]
        go_enter Tryd.func31, Tryd.ntmps31
        go_wp2_with fail
        go_ret
        exact ⟨rfl, below_alloc _ _⟩
      · have hbz : ¬ (c : Int) ≤ (hi : Int) := by omega
        have hr : alw lo hi 1 c = false := by simp [alw, ha, hb]
        rw [hr]
        go_enter Tryd.func31, Tryd.ntmps31
        go_wp2_with fail
        go_ret
        exact ⟨rfl, below_alloc _ _⟩
    · have haz : ¬ (lo : Int) ≤ (c : Int) := by omega
      have hr : alw lo hi 1 c = false := by simp [alw, ha]
      rw [hr]
      go_enter Tryd.func31, Tryd.ntmps31
      go_wp2_with fail
      go_ret
      exact ⟨rfl, below_alloc _ _⟩
  · have hnz : ¬ (n : Int) = 1 := by omega
    have hnb : ((n : Int) == 1) = false := by simp; omega
    by_cases ha : 128 ≤ c
    · have haz : (128 : Int) ≤ (c : Int) := by omega
      by_cases hb : c ≤ 191
      · have hbz : (c : Int) ≤ 191 := by omega
        have hr : alw lo hi n c = true := by simp [alw, hn, ha, hb]
        rw [hr]
        go_enter Tryd.func31, Tryd.ntmps31
        go_wp2_with fail
        go_ret
        exact ⟨rfl, below_alloc _ _⟩
      · have hbz : ¬ (c : Int) ≤ 191 := by omega
        have hr : alw lo hi n c = false := by simp [alw, hn, ha, hb]
        rw [hr]
        go_enter Tryd.func31, Tryd.ntmps31
        go_wp2_with fail
        go_ret
        exact ⟨rfl, below_alloc _ _⟩
    · have haz : ¬ (128 : Int) ≤ (c : Int) := by omega
      have hr : alw lo hi n c = false := by simp [alw, hn, ha]
      rw [hr]
      go_enter Tryd.func31, Tryd.ntmps31
      go_wp2_with fail
      go_ret
      exact ⟨rfl, below_alloc _ _⟩
end Go.Proofs.YtgnalnppjhgmjaaDoor
