/- Plain facts on what is rounded, and contracts of unit's functions at arguments that fit; for later layers. -/
import Derived.Test.YtddihpiheopleaaUnitD
import Derived.Test.YtddihpiheopleaaUnitE
namespace Go.Proofs.Ytddihpiheopleaa.Fo
open Go.ChangeShapes Go.WideShapes Go.ChangeAt Go.RowKit

theorem stop_at (x s v e : Int) (hx : -9223372036854775808 ≤ x ∧ x ≤ 9223372036854775807) (hs : 1 ≤ s ∧ s ≤ 9223372036854775807) (h1 : fitV (x + s - x % s) = v) (h2 : fitE (x + s - x % s) = e) (w : World) :
    Calls Try.prog 45 #[.int .i64 x, .int .i64 s] w fun r w' => r = .returned (.tuple #[.int .i64 v, .int .i64 e]) ∧ Kept w w' := by
  subst h1; subst h2
  exact stop_any x s w hx hs

theorem sum_at (x y v e : Int) (t : TypeId) (hx : -9223372036854775808 ≤ x ∧ x ≤ 9223372036854775807) (hy : -9223372036854775808 ≤ y ∧ y ≤ 9223372036854775807) (h1 : fitV (x + y) = v) (h2 : fitE (x + y) = e) (g : Nat) (w0 : World) (hg : g = w0.heap.size) :
    Calls Try.prog 37 #[.slice (some ⟨g, 0, none⟩) 2 2] (w0.alloc (.cells #[.int .i64 x, .int .i64 y] t)) fun r w' => r = .returned (.tuple #[.int .i64 v, .int .i64 e]) ∧ Kept w0 w' := by
  subst h1; subst h2
  refine (sum2 x y t g w0 hg hx hy).mono ?_
  rintro r w' ⟨rfl, rfl⟩
  exact ⟨rfl, (Kept.refl _).alloc _ _⟩

theorem wf64 {a : Int} (h : (Lit.int .i64 a).wf = true) : -9223372036854775808 ≤ a ∧ a ≤ 9223372036854775807 := by
  simpa [Lit.wf, IntKind.min, IntKind.max, IntKind.signed, IntKind.bits] using h

theorem fits_is (s : Int) (h1 : -4611686018427387904 ≤ s) (h2 : s ≤ 4611686018427387904) : fitV s = s ∧ fitE s = 0 := by
  unfold fitV fitE
  rw [if_pos ⟨h1, h2⟩, if_pos ⟨h1, h2⟩]
  exact ⟨rfl, rfl⟩

/-- a product of two numbers that may come in -/
theorem mul_bd (a b : Int) (h1 : -1073741824 ≤ a ∧ a ≤ 1073741824) (h2 : -1073741824 ≤ b ∧ b ≤ 1073741824) : -1152921504606846976 ≤ a * b ∧ a * b ≤ 1152921504606846976 := by
  have h : (a * b).natAbs ≤ 1073741824 * 1073741824 := by rw [Int.natAbs_mul]; exact Nat.mul_le_mul (by omega) (by omega)
  omega

/-- what is rounded lies where it must -/
theorem rnd_near (n b o : Int) (ho : 1 ≤ o) : 2 * (rnd n b o * o) ≤ 2 * (n * b) + o ∧ 2 * (n * b) < 2 * (rnd n b o * o) + o := by
  unfold rnd
  have h1 := Int.emod_add_mul_ediv (2 * (n * b) + o) (2 * o)
  have h2 := Int.emod_nonneg (2 * (n * b) + o) (show 2 * o ≠ 0 by omega)
  have h3 := Int.emod_lt_of_pos (2 * (n * b) + o) (show 0 < 2 * o by omega)
  generalize (2 * (n * b) + o) / (2 * o) = q at *
  have e : 2 * (q * o) = 2 * o * q := by rw [Int.mul_comm q o, Int.mul_assoc]
  omega

theorem rnd_bd (n b o : Int) (ho : 1 ≤ o) (h : -1152921504606846976 ≤ n * b ∧ n * b ≤ 1152921504606846976) : -1152921504606846976 ≤ rnd n b o ∧ rnd n b o ≤ 1152921504606846976 := by
  obtain ⟨h1, h2⟩ := rnd_near n b o ho
  constructor
  · rcases Int.lt_or_le (rnd n b o) (-1152921504606846976) with hlt | hge
    · exfalso
      have : (rnd n b o + 1) * o ≤ -1152921504606846976 * o := Int.mul_le_mul_of_nonneg_right (by omega) (by omega)
      rw [Int.add_mul] at this
      omega
    · exact hge
  · rcases Int.lt_or_le 1152921504606846976 (rnd n b o) with hlt | hge
    · exfalso
      have : 1152921504606846977 * o ≤ rnd n b o * o := Int.mul_le_mul_of_nonneg_right (by omega) (by omega)
      omega
    · exact hge

theorem rnd_self (n o : Int) (ho : 1 ≤ o) : rnd n o o = n := by
  unfold rnd
  refine ediv_is _ _ _ (by omega) ?_ ?_ <;> rw [show n * (2 * o) = 2 * (n * o) by rw [Int.mul_left_comm]] <;> omega

end Go.Proofs.Ytddihpiheopleaa.Fo
