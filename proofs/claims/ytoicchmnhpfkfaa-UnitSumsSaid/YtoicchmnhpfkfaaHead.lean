/- Contract of the laws' helper 'head': it returns true. No condition. -/
import Derived.Test.YtoicchmnhpfkfaaUnitD
import Derived.Test.YtoicchmnhpfkfaaUnitE
namespace Go.Proofs.Ytoicchmnhpfkfaa
open Go.ChangeShapes Go.WideShapes Go.ChangeAt Go.RowKit

theorem scale_at (n b o x e : Int) (hn : -9223372036854775808 ≤ n ∧ n ≤ 9223372036854775807) (hb : -9223372036854775808 ≤ b ∧ b ≤ 9223372036854775807) (ho : 1 ≤ o ∧ o ≤ 9223372036854775807) (h1 : fitV (rnd n b o) = x) (h2 : fitE (rnd n b o) = e) (w : World) :
    Calls Try.prog 14 #[.int .i64 n, .int .i64 b, .int .i64 o] w fun r w' => r = .returned (.tuple #[.int .i64 x, .int .i64 e]) ∧ Kept w w' := by
  subst h1; subst h2
  exact scale_any n b o w hn hb ho

theorem stop_at (x s v e : Int) (hx : -9223372036854775808 ≤ x ∧ x ≤ 9223372036854775807) (hs : 1 ≤ s ∧ s ≤ 9223372036854775807) (h1 : fitV (x + s - x % s) = v) (h2 : fitE (x + s - x % s) = e) (w : World) :
    Calls Try.prog 18 #[.int .i64 x, .int .i64 s] w fun r w' => r = .returned (.tuple #[.int .i64 v, .int .i64 e]) ∧ Kept w w' := by
  subst h1; subst h2
  exact stop_any x s w hx hs

theorem sum_at (x y v e : Int) (t : TypeId) (hx : -9223372036854775808 ≤ x ∧ x ≤ 9223372036854775807) (hy : -9223372036854775808 ≤ y ∧ y ≤ 9223372036854775807) (h1 : fitV (x + y) = v) (h2 : fitE (x + y) = e) (g : Nat) (w0 : World) (hg : g = w0.heap.size) :
    Calls Try.prog 10 #[.slice (some ⟨g, 0, none⟩) 2 2] (w0.alloc (.cells #[.int .i64 x, .int .i64 y] t)) fun r w' => r = .returned (.tuple #[.int .i64 v, .int .i64 e]) ∧ Kept w0 w' := by
  subst h1; subst h2
  refine (sum2 x y t g w0 hg hx hy).mono ?_
  rintro r w' ⟨rfl, rfl⟩
  exact ⟨rfl, (Kept.refl _).alloc _ _⟩

set_option maxRecDepth 100000 in
set_option maxHeartbeats 2000000 in
theorem head_any (w : World) : Calls Try.prog 9 #[] w fun e w' => e = .returned (.bool true) ∧ Kept w w' := by
  go_enter Try.func9, Try.ntmps9
  go_wp2_with fail
  refine (sum_at 1 (-3) (-2) 0 _ (by omega) (by omega) (by decide) (by decide) _ _ (by simp)).mono ?_
  rintro e w1 ⟨rfl, g1⟩
  go_wp2_with fail
  refine (sum_at 4611686018427387904 1 0 10 _ (by omega) (by omega) (by decide) (by decide) _ _ (by simp)).mono ?_
  rintro e w2 ⟨rfl, g2⟩
  go_wp2_with fail
  refine (sum_at 9223372036854775807 (-4611686018427387904) 4611686018427387903 0 _ (by omega) (by omega) (by decide) (by decide) _ _ (by simp)).mono ?_
  rintro e w3 ⟨rfl, g3⟩
  go_wp2_with fail
  refine (scale_at 7 1 2 4 0 (by omega) (by omega) (by omega) (by decide) (by decide) _).mono ?_
  rintro e w4 ⟨rfl, g4⟩
  go_wp2_with fail
  refine (scale_at (-7) 1 2 (-3) 0 (by omega) (by omega) (by omega) (by decide) (by decide) _).mono ?_
  rintro e w5 ⟨rfl, g5⟩
  go_wp2_with fail
  refine (scale_arg 1 1 0 _ (by omega)).mono ?_
  rintro e w6 ⟨rfl, rfl⟩
  go_wp2_with fail
  refine (scale_at 4611686018427387904 4 2 0 10 (by omega) (by omega) (by omega) (by decide) (by decide) _).mono ?_
  rintro e w7 ⟨rfl, g7⟩
  go_wp2_with fail
  refine (halves_any (-7) _ (by omega) (by omega)).mono ?_
  rintro e w8 ⟨rfl, rfl⟩
  go_wp2_with fail
  refine (stop_at 7 8 8 0 (by omega) (by omega) (by decide) (by decide) _).mono ?_
  rintro e w9 ⟨rfl, g9⟩
  go_wp2_with fail
  refine (stop_at 8 8 16 0 (by omega) (by omega) (by decide) (by decide) _).mono ?_
  rintro e w10 ⟨rfl, g10⟩
  go_wp2_with fail
  go_ret
  exact ⟨by simp, kept_trans g1 (kept_trans g2 (kept_trans g3 (kept_trans g4 (kept_trans g5 (kept_trans g7 (kept_trans g9 g10))))))⟩
end Go.Proofs.Ytoicchmnhpfkfaa
