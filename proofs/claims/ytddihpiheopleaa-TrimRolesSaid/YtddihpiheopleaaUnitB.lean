/- Contracts of unit.Scale and unit.Stop, with their closures: Scale gives the product by the divisor, rounded half up, or an error; Stop the least multiple above. Conditions: the arguments are int64. Nothing that was in memory turns ('Kept'). -/
import Derived.Test.YtddihpiheopleaaBits
namespace Go.Proofs.Ytddihpiheopleaa.Fo
open Go.ChangeShapes Go.WideShapes Go.ChangeAt Go.RowKit

/-- nothing that was in memory turns: all old blocks are as they were, and no mark 'may not be written' turns -/
def Kept (w w' : World) : Prop := Below w.heap.size w w' ∧ (∀ a, w'.frozen? a = w.frozen? a) ∧ w.heap.size ≤ w'.heap.size

theorem Kept.refl (w : World) : Kept w w := ⟨Below.refl _ _, fun _ => rfl, Nat.le_refl _⟩
theorem Kept.alloc {w w' : World} (h : Kept w w') (c : Array Value) (t : TypeId) : Kept w (w'.alloc (.cells c t)) :=
  ⟨h.1.alloc h.2.2 _, fun a => (frozen?_alloc_cells _ _ _ a).trans (h.2.1 a), Nat.le_trans h.2.2 (by show w'.heap.size ≤ (w'.heap.push _).size; simp)⟩
theorem Kept.setCell {w w' : World} (h : Kept w w') {a : Addr} (ha : w.heap.size ≤ a.block) (v : Value) : Kept w (w'.setCell a v) :=
  ⟨h.1.setCell ha v, fun x => (World.frozen?_setCell _ _ _ _).trans (h.2.1 x), by simpa [World.setCell] using h.2.2⟩
theorem Kept.drew {w w' : World} (h : Kept w w') : Kept w w'.drew := ⟨h.1.drew, h.2.1, h.2.2⟩
theorem Kept.frame {w w' : World} (h : Kept w w') (may : MemPlace → Prop) : w.keptBut w' may := h.1.frame may
theorem Kept.cell {w w' : World} (h : Kept w w') {a : Addr} (ha : a.block < w.heap.size) : w'.cell? a = w.cell? a := h.1.cell ha
theorem kept_trans {a b c : World} (h : Kept a b) (k : Kept b c) : Kept a c :=
  ⟨h.1.trans (k.1.mono h.2.2), fun x => (k.2.1 x).trans (h.2.1 x), Nat.le_trans h.2.2 k.2.2⟩
theorem kept_drewN {a b : World} (h : Kept a b) (n : Nat) : Kept a (b.drewN n) := kept_trans h ⟨⟨rfl, rfl, rfl, Nat.le_refl _, fun _ _ => rfl⟩, fun _ => rfl, Nat.le_refl _⟩

/-- is the rest such that one more is right? -/
def upB (whole rest : Nat) (below : Bool) : Bool := if below then decide (whole < 2 * rest) else decide (whole ≤ 2 * rest)

/-- the quotient with its sign, rounded -/
def sc (P O : Nat) (below : Bool) : Int := if below then -((P / O + (if upB O (P % O) below then 1 else 0) : Nat) : Int) else ((P / O + (if upB O (P % O) below then 1 else 0) : Nat) : Int)

def Signs (n b : Int) (below : Bool) : Prop := (n < 0 ∧ ¬ b < 0 ∧ below = true) ∨ (¬ n < 0 ∧ b < 0 ∧ below = true) ∨ (n < 0 ∧ b < 0 ∧ below = false) ∨ (¬ n < 0 ∧ ¬ b < 0 ∧ below = false)

theorem sc_over (P O : Nat) (below : Bool) (h : 4611686018427387904 < P / O) : fitV (sc P O below) = 0 ∧ fitE (sc P O below) = 10 := by
  unfold fitV fitE sc
  cases below <;> simp only [if_true, Bool.false_eq_true, if_false] <;> rw [if_neg (by omega), if_neg (by omega)] <;> exact ⟨rfl, rfl⟩

theorem over_of (P O : Nat) (o1 : 1 ≤ O) (h : O ≤ P / 18446744073709551616) : 4611686018427387904 < P / O := by
  have h2 : O * 18446744073709551616 ≤ P := by omega
  have : 18446744073709551616 ≤ P / O := by rw [Nat.le_div_iff_mul_le (by omega)]; omega
  omega

theorem sum_new (zs : List Int) (n : Nat) (hz : zs.length = n) (t : TypeId) (g : Nat) (w0 : World) (hg : g = w0.heap.size) (hn : n ≤ 1152921504606846976) (hr : ∀ z ∈ zs, -9223372036854775808 ≤ z ∧ z ≤ 9223372036854775807) :
    Calls Try.prog 37 #[.slice (some ⟨g, 0, none⟩) n n] (w0.alloc (.cells (zs.map (Value.int .i64)).toArray t)) fun e w' => e = .returned (.tuple #[.int .i64 (fitV zs.sum), .int .i64 (fitE zs.sum)]) ∧ (w0.alloc (.cells (zs.map (Value.int .i64)).toArray t)) = w' := by
  subst hg; subst hz
  refine sum_any ⟨w0.heap.size, 0, none⟩ zs zs.length _ hn (fun j hj => ?_) hr
  rw [add_plain, World.cell?_alloc_new]
  simp [hj]

theorem sum1 (x : Int) (t : TypeId) (g : Nat) (w0 : World) (hg : g = w0.heap.size) (hx : -9223372036854775808 ≤ x ∧ x ≤ 9223372036854775807) :
    Calls Try.prog 37 #[.slice (some ⟨g, 0, none⟩) 1 1] (w0.alloc (.cells #[.int .i64 x] t)) fun e w' => e = .returned (.tuple #[.int .i64 (fitV x), .int .i64 (fitE x)]) ∧ (w0.alloc (.cells #[.int .i64 x] t)) = w' := by
  have h := sum_new [x] 1 rfl t g w0 hg (by omega) (by simpa using hx)
  simpa using h

theorem sum2 (x y : Int) (t : TypeId) (g : Nat) (w0 : World) (hg : g = w0.heap.size) (hx : -9223372036854775808 ≤ x ∧ x ≤ 9223372036854775807) (hy : -9223372036854775808 ≤ y ∧ y ≤ 9223372036854775807) :
    Calls Try.prog 37 #[.slice (some ⟨g, 0, none⟩) 2 2] (w0.alloc (.cells #[.int .i64 x, .int .i64 y] t)) fun e w' => e = .returned (.tuple #[.int .i64 (fitV (x + y)), .int .i64 (fitE (x + y))]) ∧ (w0.alloc (.cells #[.int .i64 x, .int .i64 y] t)) = w' := by
  have h := sum_new [x, y] 2 rfl t g w0 hg (by omega) (by simp; omega)
  simpa using h

theorem sum3 (x y z : Int) (t : TypeId) (g : Nat) (w0 : World) (hg : g = w0.heap.size) (hx : -9223372036854775808 ≤ x ∧ x ≤ 9223372036854775807) (hy : -9223372036854775808 ≤ y ∧ y ≤ 9223372036854775807) (hz : -9223372036854775808 ≤ z ∧ z ≤ 9223372036854775807) :
    Calls Try.prog 37 #[.slice (some ⟨g, 0, none⟩) 3 3] (w0.alloc (.cells #[.int .i64 x, .int .i64 y, .int .i64 z] t)) fun e w' => e = .returned (.tuple #[.int .i64 (fitV (x + (y + z))), .int .i64 (fitE (x + (y + z)))]) ∧ (w0.alloc (.cells #[.int .i64 x, .int .i64 y, .int .i64 z] t)) = w' := by
  have h := sum_new [x, y, z] 3 rfl t g w0 hg (by omega) (by simp; omega)
  simpa using h
end Go.Proofs.Ytddihpiheopleaa.Fo
