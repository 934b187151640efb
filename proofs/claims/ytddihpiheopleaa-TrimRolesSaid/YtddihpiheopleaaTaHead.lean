/- Contracts of Pens and End at known answers; of the laws' head. No conditions but those of the parts. -/
import Derived.Test.YtddihpiheopleaaTa5
import Derived.Test.YtddihpiheopleaaTaSame
namespace Go.Proofs.Ytddihpiheopleaa.Ta
open Go.ChangeShapes Go.WideShapes Go.ChangeAt Go.RowKit
open Ce
open Fo (fitV fitE)

theorem end_is {l : List Cl} {rs : List Int} {x z E : Int} (h : (if (pens l rs x).2 = 0 then (pens l rs x).1.getLastD 0 else 0) = z) (hE : (pens l rs x).2 = E) (vl vr : Value) (w : World) (hl : RwCl w vl l) (hr : RowI .u8 w vr rs) (hlen : l.length ≤ 1048576) (hx : W64 x) (ha : ∀ c ∈ l, W64 c.adv) :
    Calls Try.prog 18 #[vl, vr, .int .i64 x] w fun e w' => e = .returned (.tuple #[.int .i64 z, .int .i64 E]) ∧ Below w.heap.size w w' := by
  subst h hE
  exact end_any l rs x vl vr w hl hr hlen hx ha
theorem step_is {c : Cl} {x v E : Int} (h : stepV c x = (v, E)) (w : World) (hx : W64 x) (hc : W64 c.adv) :
    Calls Try.prog 39 #[.agg (clA c), .int .i64 x] w fun e w' => e = .returned (.tuple #[.int .i64 v, .int .i64 E]) ∧ Below w.heap.size w w' := by
  have := step_any c x w hx hc
  rw [h] at this
  exact this
def mkC (k adv : Int) : Cl := ⟨k, 0, 0, adv, false, false⟩
def exL : List Cl := [mkC 0 5, mkC 4 8, mkC 0 5]
theorem exL_ok : ∀ c ∈ exL, W64 c.adv := by unfold W64; decide
theorem ex1 : pens exL [] 0 = ([0, 5, 8, 13], 0) := by decide +kernel
theorem ex2 : pens exL [] 3 = ([3, 8, 16, 21], 0) := by decide +kernel
theorem ex3 : pens exL [] 4 = ([4, 9, 16, 21], 0) := by decide +kernel
theorem ex4 : pens (exL.take 2) [0, 1] 0 = ([0, 5, 5], 0) := by decide +kernel
theorem ex5 : (pens [mkC 4 0] [] 0).2 = 0 ∧ (if (pens [mkC 4 0] [] 0).2 = 0 then (pens [mkC 4 0] [] 0).1.getLastD 0 else 0) = 0 := by decide +kernel
theorem ex6 : stepV (mkC 4 (-1)) 0 = (0, 2) := by decide +kernel
theorem ex7 : (pens [mkC 0 1] [] 4611686018427387904).2 = 10 ∧ (if (pens [mkC 0 1] [] 4611686018427387904).2 = 0 then (pens [mkC 0 1] [] 4611686018427387904).1.getLastD 0 else 0) = 0 := by decide +kernel

end Go.Proofs.Ytddihpiheopleaa.Ta
