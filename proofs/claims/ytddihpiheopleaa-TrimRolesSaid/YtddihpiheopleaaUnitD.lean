/- Contracts of unit.Stop and its closure: the least multiple of the step above the number, or an error. Conditions: the arguments are int64. Nothing that was in memory turns ('Kept'). -/
import Derived.Test.YtddihpiheopleaaUnitB
import Derived.Deep.RegionWith
import Derived.Deep.RegionHeld3
namespace Go.Proofs.Ytddihpiheopleaa.Fo
open Go.ChangeShapes Go.WideShapes Go.ChangeAt Go.RowKit

set_option maxHeartbeats 400000 in
theorem past_any (r s p : Int) (a : Addr) (w : World) (hr : -s < r ∧ r < s) (hs : 1 ≤ s ∧ s ≤ 9223372036854775807) (hp : Hid ((r < 0 → p = r + s) ∧ (0 ≤ r → p = r)))
    (hc : w.cell? a = some (.int .i64 s)) :
    Calls Try.prog 49 #[.int .i64 r, .pointer (some a)] w fun e w' => e = .returned (.int .i64 p) ∧ w = w' := by
  by_cases h : r < 0
  · go_enter Try.func49, Try.ntmps49
    go_wp2
    go_ret
    exact ⟨ret1 (hp.out.1 h).symm, rfl⟩
  · go_enter Try.func49, Try.ntmps49
    go_wp2
    go_ret
    exact ⟨ret1 (hp.out.2 (by omega)).symm, rfl⟩

theorem tmod_is (x s : Int) (hs : 1 ≤ s) : -s < x.tmod s ∧ x.tmod s < s ∧ (x.tmod s < 0 → x % s = x.tmod s + s) ∧ (0 ≤ x.tmod s → x % s = x.tmod s) := by
  have h1 := Int.emod_nonneg x (show s ≠ 0 by omega)
  have h2 := Int.emod_lt_of_pos x (show 0 < s by omega)
  rcases Int.lt_or_le x 0 with hx | hx
  · obtain ⟨y, rfl⟩ : ∃ y, x = -y := ⟨-x, by omega⟩
    have e1 : (-y).tmod s = -(y % s) := by rw [Int.neg_tmod, Int.tmod_eq_emod_of_nonneg (by omega)]
    have h3 := Int.emod_nonneg y (show s ≠ 0 by omega)
    have h4 := Int.emod_lt_of_pos y (show 0 < s by omega)
    rw [e1]
    by_cases h0 : y % s = 0
    · have : (-y) % s = 0 := Int.emod_eq_zero_of_dvd (Int.dvd_neg.2 (Int.dvd_of_emod_eq_zero h0))
      omega
    · have e2 : (-y) % s = s - y % s := by
        have hd := Int.emod_add_mul_ediv y s
        have : -y = (s - y % s) + s * (-(y / s) - 1) := by rw [Int.mul_sub, Int.mul_neg]; omega
        rw [this, Int.add_mul_emod_self_left, Int.emod_eq_of_lt (by omega) (by omega)]
      omega
  · rw [Int.tmod_eq_emod_of_nonneg hx]
    omega

set_option maxHeartbeats 400000 in
theorem stop_arg (x s : Int) (w : World) (h : s < 1) :
    Calls Try.prog 45 #[.int .i64 x, .int .i64 s] w fun e w' => e = .returned (.tuple #[.int .i64 0, .int .i64 2]) ∧ Kept w w' := by
  go_enter Try.func45, Try.ntmps45
  go_wp2
  go_ret2
  exact ⟨rfl, (Kept.refl _).alloc _ _⟩

theorem sum3c (x y z : Int) (g : Nat) (w : World) (h0 : w.cell? ⟨g, 0, none⟩ = some (.int .i64 x)) (h1 : w.cell? ⟨g, 1, none⟩ = some (.int .i64 y)) (h2 : w.cell? ⟨g, 2, none⟩ = some (.int .i64 z))
    (hx : -9223372036854775808 ≤ x ∧ x ≤ 9223372036854775807) (hy : -9223372036854775808 ≤ y ∧ y ≤ 9223372036854775807) (hz : -9223372036854775808 ≤ z ∧ z ≤ 9223372036854775807) :
    Calls Try.prog 37 #[.slice (some ⟨g, 0, none⟩) 3 3] w fun e w' => e = .returned (.tuple #[.int .i64 (fitV (x + (y + z))), .int .i64 (fitE (x + (y + z)))]) ∧ w = w' := by
  have h := sum_any ⟨g, 0, none⟩ [x, y, z] 3 w (by simp) (fun j hj => by
    have : j = 0 ∨ j = 1 ∨ j = 2 := by simp at hj; omega
    rw [add_plain]
    rcases this with rfl | rfl | rfl
    · exact h0
    · exact h1
    · exact h2) (by simp; omega)
  simpa using h

set_option maxHeartbeats 2000000 in
theorem stop_any (x s : Int) (w : World) (hx : -9223372036854775808 ≤ x ∧ x ≤ 9223372036854775807) (hs : 1 ≤ s ∧ s ≤ 9223372036854775807) :
    Calls Try.prog 45 #[.int .i64 x, .int .i64 s] w fun e w' => e = .returned (.tuple #[.int .i64 (fitV (x + s - x % s)), .int .i64 (fitE (x + s - x % s))]) ∧ Kept w w' := by
  obtain ⟨r, p, hr, hr1, hr2, hp1, hp2, HP, HR⟩ : ∃ r p : Int, x.tmod s = r ∧ -s < r ∧ r < s ∧ 0 ≤ p ∧ p < s ∧ Hid ((r < 0 → p = r + s) ∧ (0 ≤ r → p = r)) ∧ Hid (x % s = p) :=
    ⟨x.tmod s, x % s, rfl, (tmod_is x s hs.1).1, (tmod_is x s hs.1).2.1, Int.emod_nonneg x (by omega), Int.emod_lt_of_pos x (by omega), (tmod_is x s hs.1).2.2, rfl⟩
  have es : (s == 0) = false := by simp; omega
  have hfin : Hid (x + (s + -p) = x + s - x % s) := by show _ = _; rw [HR.out]; omega
  rw [← hfin.out]
  have hw : IntKind.i64.wrap (-p) = -p := IntWalk.i64_in _ (by omega)
  go_enter Try.func45, Try.ntmps45
  go_wp2_with fail
  go_region_with (first
    | (go_at_call 49; refine (past_any r s p _ _ (by omega) (by omega) HP (by simp)).mono ?_; rintro e w' ⟨rfl, rfl⟩)
    | (go_at_call 37; refine (sum3c x s (-p) _ _ (by simp) (by simp) (by simp) (by omega) (by omega) (by omega)).mono ?_; rintro e w' ⟨rfl, rfl⟩))
  all_goals (go_wp2_with fail; go_ret2; exact ⟨rfl, (((Kept.refl _).alloc _ _).alloc _ _).drew⟩)
end Go.Proofs.Ytddihpiheopleaa.Fo
