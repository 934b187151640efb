/- Contracts of Pens and End at known answers; of the laws' head. No conditions but those of the parts. -/
import Derived.Test.YtpaaicbgehpdiaaTa5
import Derived.Test.YtpaaicbgehpdiaaTaSame
namespace Go.Proofs.Ytpaaicbgehpdiaa.Ta
open Go.ChangeShapes Go.WideShapes Go.ChangeAt Go.RowKit
open Ce
open Fo (fitV fitE)

theorem pens_ok {l : List Cl} {rs : List Int} {x : Int} {ys : List Int} (h : pens l rs x = (ys, 0)) (vl vr : Value) (w : World) (hl : RwCl w vl l) (hr : RowI .u8 w vr rs) (hlen : l.length ≤ 1048576) (hx : W64 x) (ha : ∀ c ∈ l, W64 c.adv) :
    Calls Try.prog 8 #[vl, vr, .int .i64 x] w fun e w' => ∃ u, e = .returned (.tuple #[u, .int .i64 0]) ∧ RowI .i64 w' u ys ∧ CapV u ∧ Below w.heap.size w w' := by
  have := pens_any l rs x vl vr w hl hr hlen hx ha
  rw [h] at this
  refine this.mono ?_
  rintro e w' ⟨⟨u, h1, h2, h4, _⟩, h3⟩
  exact ⟨u, h1, h2, h4, h3⟩
theorem pens_no {l : List Cl} {rs : List Int} {x E : Int} {ys : List Int} (h : pens l rs x = (ys, E)) (hE : E ≠ 0) (vl vr : Value) (w : World) (hl : RwCl w vl l) (hr : RowI .u8 w vr rs) (hlen : l.length ≤ 1048576) (hx : W64 x) (ha : ∀ c ∈ l, W64 c.adv) :
    Calls Try.prog 8 #[vl, vr, .int .i64 x] w fun e w' => e = .returned (.tuple #[.slice none 0 0, .int .i64 E]) ∧ Below w.heap.size w w' := by
  have := pens_any l rs x vl vr w hl hr hlen hx ha
  rw [h] at this
  refine this.mono ?_
  rintro e w' ⟨⟨u, h1, _, _, h2⟩, h3⟩
  rw [h2 hE] at h1
  exact ⟨h1, h3⟩
theorem end_is {l : List Cl} {rs : List Int} {x z E : Int} (h : (if (pens l rs x).2 = 0 then (pens l rs x).1.getLastD 0 else 0) = z) (hE : (pens l rs x).2 = E) (vl vr : Value) (w : World) (hl : RwCl w vl l) (hr : RowI .u8 w vr rs) (hlen : l.length ≤ 1048576) (hx : W64 x) (ha : ∀ c ∈ l, W64 c.adv) :
    Calls Try.prog 10 #[vl, vr, .int .i64 x] w fun e w' => e = .returned (.tuple #[.int .i64 z, .int .i64 E]) ∧ Below w.heap.size w w' := by
  subst h hE
  exact end_any l rs x vl vr w hl hr hlen hx ha
theorem step_is {c : Cl} {x v E : Int} (h : stepV c x = (v, E)) (w : World) (hx : W64 x) (hc : W64 c.adv) :
    Calls Try.prog 11 #[.agg (clA c), .int .i64 x] w fun e w' => e = .returned (.tuple #[.int .i64 v, .int .i64 E]) ∧ Below w.heap.size w w' := by
  have := step_any c x w hx hc
  rw [h] at this
  exact this
theorem same_is {l m : List Int} (h : l = m) (v1 v2 : Value) (w : World) (h1 : RowI .i64 w v1 l) (h2 : RowI .i64 w v2 m) (hn : l.length ≤ 1048577) :
    Calls Try.prog 9 #[v1, v2] w fun e w' => e = .returned (.bool true) ∧ Below w.heap.size w w' := by
  have := same_any l m v1 v2 w h1 h2 hn
  rw [decide_eq_true h] at this
  exact this

def mkC (k adv : Int) : Cl := ⟨k, 0, 0, adv, false, false⟩
def exL : List Cl := [mkC 0 5, mkC 4 8, mkC 0 5]
theorem exL_ok : ∀ c ∈ exL, W64 c.adv := by unfold W64; decide
theorem ex1 : pens exL [] 0 = ([0, 5, 8, 13], 0) := by decide +kernel
theorem ex2 : pens exL [] 3 = ([3, 8, 16, 21], 0) := by decide +kernel
theorem ex3 : pens exL [] 4 = ([4, 9, 16, 21], 0) := by decide +kernel
theorem ex4 : pens (exL.take 2) [0, 1] 0 = ([0, 5, 5], 0) := by decide +kernel
theorem ex5 : (pens [mkC 4 0] [] 0).2 = 0 ∧ (if (pens [mkC 4 0] [] 0).2 = 0 then (pens [mkC 4 0] [] 0).1.getLastD 0 else 0) = 0 := by decide +kernel
theorem ex6 : stepV (mkC 4 (-1)) 0 = (0, 2) := by decide +kernel
theorem ex7 : (pens [mkC 0 1] [] 4611686018427387904).2 = 10 ∧ (if (pens [mkC 0 1] [] 4611686018427387904).2 = 0 then (pens [mkC 0 1] [] 4611686018427387904).1.getLastD 0 else 0) = 0 := by decide +kernel

set_option maxRecDepth 100000 in
set_option maxHeartbeats 4000000 in
theorem head_any (w : World) : Calls Try.prog 7 #[] w fun e w' => e = .returned (.bool true) ∧ Below w.heap.size w w' := by
  go_enter Try.func7, Try.ntmps7
  go_wp2_with fail
  have RL := RwCl.lit w exL 3 #[.int .u8 0, .int .i64 0, .int .i64 0, .int .i64 5, .bool false, .bool false, .int .u8 4, .int .i64 0, .int .i64 0, .int .i64 8, .bool false, .bool false, .int .u8 0, .int .i64 0, .int .i64 0, .int .i64 5, .bool false, .bool false] rfl rfl
  have bel := (below_alloc w (.cells #[.int .u8 0, .int .i64 0, .int .i64 0, .int .i64 5, .bool false, .bool false, .int .u8 4, .int .i64 0, .int .i64 0, .int .i64 8, .bool false, .bool false, .int .u8 0, .int .i64 0, .int .i64 0, .int .i64 5, .bool false, .bool false] 31))
  obtain ⟨w_2, hw_2⟩ : ∃ x, w.alloc (.cells #[.int .u8 0, .int .i64 0, .int .i64 0, .int .i64 5, .bool false, .bool false, .int .u8 4, .int .i64 0, .int .i64 0, .int .i64 8, .bool false, .bool false, .int .u8 0, .int .i64 0, .int .i64 0, .int .i64 5, .bool false, .bool false] 31) = x := ⟨_, rfl⟩
  rw [hw_2] at RL bel ⊢
  clear hw_2
  refine (pens_ok ex1 _ _ _ RL RowI.nil_ (by decide) (by unfold W64; decide) exL_ok).mono ?_
  rintro e w_3 ⟨u1, rfl, S1, _, d3⟩
  have RL := RL.below d3
  have bel := below_seq bel d3
  go_wp2_with fail
  refine (pens_ok ex2 _ _ _ RL RowI.nil_ (by decide) (by unfold W64; decide) exL_ok).mono ?_
  rintro e w_4 ⟨u2, rfl, S2, _, d4⟩
  have RL := RL.below d4
  have S1 := S1.below d4
  have bel := below_seq bel d4
  go_wp2_with fail
  refine (pens_ok ex3 _ _ _ RL RowI.nil_ (by decide) (by unfold W64; decide) exL_ok).mono ?_
  rintro e w_5 ⟨u3, rfl, S3, _, d5⟩
  have RL := RL.below d5
  have S1 := S1.below d5
  have S2 := S2.below d5
  have bel := below_seq bel d5
  go_wp2_with fail
  have RG := RowI.lit (k := .u8) w_5 [0, 1] 5 2 #[.int .u8 0, .int .u8 1] rfl rfl
  have RL := RL.below (below_alloc w_5 (.cells #[.int .u8 0, .int .u8 1] 5))
  have S1 := S1.below (below_alloc w_5 (.cells #[.int .u8 0, .int .u8 1] 5))
  have S2 := S2.below (below_alloc w_5 (.cells #[.int .u8 0, .int .u8 1] 5))
  have S3 := S3.below (below_alloc w_5 (.cells #[.int .u8 0, .int .u8 1] 5))
  have bel := below_seq bel (below_alloc w_5 (.cells #[.int .u8 0, .int .u8 1] 5))
  obtain ⟨w_7, hw_7⟩ : ∃ x, w_5.alloc (.cells #[.int .u8 0, .int .u8 1] 5) = x := ⟨_, rfl⟩
  rw [hw_7] at RL S1 S2 S3 RG bel ⊢
  clear hw_7
  refine (pens_ok ex4 _ _ _ (RL.take (by decide)) RG (by decide) (by unfold W64; decide) (by unfold W64; decide)).mono ?_
  rintro e w_8 ⟨u4, rfl, S4, _, d8⟩
  have RL := RL.below d8
  have S1 := S1.below d8
  have S2 := S2.below d8
  have S3 := S3.below d8
  have RG := RG.below d8
  have bel := below_seq bel d8
  go_wp2_with fail
  have RM := RwCl.lit w_8 [mkC 4 0] 1 #[.int .u8 4, .int .i64 0, .int .i64 0, .int .i64 0, .bool false, .bool false] rfl rfl
  have RL := RL.below (below_alloc w_8 (.cells #[.int .u8 4, .int .i64 0, .int .i64 0, .int .i64 0, .bool false, .bool false] 31))
  have S1 := S1.below (below_alloc w_8 (.cells #[.int .u8 4, .int .i64 0, .int .i64 0, .int .i64 0, .bool false, .bool false] 31))
  have S2 := S2.below (below_alloc w_8 (.cells #[.int .u8 4, .int .i64 0, .int .i64 0, .int .i64 0, .bool false, .bool false] 31))
  have S3 := S3.below (below_alloc w_8 (.cells #[.int .u8 4, .int .i64 0, .int .i64 0, .int .i64 0, .bool false, .bool false] 31))
  have RG := RG.below (below_alloc w_8 (.cells #[.int .u8 4, .int .i64 0, .int .i64 0, .int .i64 0, .bool false, .bool false] 31))
  have S4 := S4.below (below_alloc w_8 (.cells #[.int .u8 4, .int .i64 0, .int .i64 0, .int .i64 0, .bool false, .bool false] 31))
  have bel := below_seq bel (below_alloc w_8 (.cells #[.int .u8 4, .int .i64 0, .int .i64 0, .int .i64 0, .bool false, .bool false] 31))
  obtain ⟨w_10, hw_10⟩ : ∃ x, w_8.alloc (.cells #[.int .u8 4, .int .i64 0, .int .i64 0, .int .i64 0, .bool false, .bool false] 31) = x := ⟨_, rfl⟩
  rw [hw_10] at RL S1 S2 S3 RG S4 RM bel ⊢
  clear hw_10
  refine (end_is ex5.2 ex5.1 _ _ _ RM RowI.nil_ (by decide) (by unfold W64; decide) (by unfold W64; decide)).mono ?_
  rintro e w_11 ⟨rfl, d11⟩
  have RL := RL.below d11
  have S1 := S1.below d11
  have S2 := S2.below d11
  have S3 := S3.below d11
  have RG := RG.below d11
  have S4 := S4.below d11
  have RM := RM.below d11
  have bel := below_seq bel d11
  go_wp2_with fail
  refine (step_is ex6 _ (by unfold W64; decide) (by unfold W64; decide)).mono ?_
  rintro e w_12 ⟨rfl, d12⟩
  have RL := RL.below d12
  have S1 := S1.below d12
  have S2 := S2.below d12
  have S3 := S3.below d12
  have RG := RG.below d12
  have S4 := S4.below d12
  have RM := RM.below d12
  have bel := below_seq bel d12
  go_wp2_with fail
  have RN := RwCl.lit w_12 [mkC 0 1] 1 #[.int .u8 0, .int .i64 0, .int .i64 0, .int .i64 1, .bool false, .bool false] rfl rfl
  have RL := RL.below (below_alloc w_12 (.cells #[.int .u8 0, .int .i64 0, .int .i64 0, .int .i64 1, .bool false, .bool false] 31))
  have S1 := S1.below (below_alloc w_12 (.cells #[.int .u8 0, .int .i64 0, .int .i64 0, .int .i64 1, .bool false, .bool false] 31))
  have S2 := S2.below (below_alloc w_12 (.cells #[.int .u8 0, .int .i64 0, .int .i64 0, .int .i64 1, .bool false, .bool false] 31))
  have S3 := S3.below (below_alloc w_12 (.cells #[.int .u8 0, .int .i64 0, .int .i64 0, .int .i64 1, .bool false, .bool false] 31))
  have RG := RG.below (below_alloc w_12 (.cells #[.int .u8 0, .int .i64 0, .int .i64 0, .int .i64 1, .bool false, .bool false] 31))
  have S4 := S4.below (below_alloc w_12 (.cells #[.int .u8 0, .int .i64 0, .int .i64 0, .int .i64 1, .bool false, .bool false] 31))
  have RM := RM.below (below_alloc w_12 (.cells #[.int .u8 0, .int .i64 0, .int .i64 0, .int .i64 1, .bool false, .bool false] 31))
  have bel := below_seq bel (below_alloc w_12 (.cells #[.int .u8 0, .int .i64 0, .int .i64 0, .int .i64 1, .bool false, .bool false] 31))
  obtain ⟨w_14, hw_14⟩ : ∃ x, w_12.alloc (.cells #[.int .u8 0, .int .i64 0, .int .i64 0, .int .i64 1, .bool false, .bool false] 31) = x := ⟨_, rfl⟩
  rw [hw_14] at RL S1 S2 S3 RG S4 RM RN bel ⊢
  clear hw_14
  refine (end_is ex7.2 ex7.1 _ _ _ RN RowI.nil_ (by decide) (by unfold W64; decide) (by unfold W64; decide)).mono ?_
  rintro e w_15 ⟨rfl, d15⟩
  have RL := RL.below d15
  have S1 := S1.below d15
  have S2 := S2.below d15
  have S3 := S3.below d15
  have RG := RG.below d15
  have S4 := S4.below d15
  have RM := RM.below d15
  have RN := RN.below d15
  have bel := below_seq bel d15
  go_wp2_with fail
  have T1 := RowI.lit (k := .i64) w_15 [0, 5, 8, 13] 2 4 #[.int .i64 0, .int .i64 5, .int .i64 8, .int .i64 13] rfl rfl
  have RL := RL.below (below_alloc w_15 (.cells #[.int .i64 0, .int .i64 5, .int .i64 8, .int .i64 13] 2))
  have S1 := S1.below (below_alloc w_15 (.cells #[.int .i64 0, .int .i64 5, .int .i64 8, .int .i64 13] 2))
  have S2 := S2.below (below_alloc w_15 (.cells #[.int .i64 0, .int .i64 5, .int .i64 8, .int .i64 13] 2))
  have S3 := S3.below (below_alloc w_15 (.cells #[.int .i64 0, .int .i64 5, .int .i64 8, .int .i64 13] 2))
  have RG := RG.below (below_alloc w_15 (.cells #[.int .i64 0, .int .i64 5, .int .i64 8, .int .i64 13] 2))
  have S4 := S4.below (below_alloc w_15 (.cells #[.int .i64 0, .int .i64 5, .int .i64 8, .int .i64 13] 2))
  have RM := RM.below (below_alloc w_15 (.cells #[.int .i64 0, .int .i64 5, .int .i64 8, .int .i64 13] 2))
  have RN := RN.below (below_alloc w_15 (.cells #[.int .i64 0, .int .i64 5, .int .i64 8, .int .i64 13] 2))
  have bel := below_seq bel (below_alloc w_15 (.cells #[.int .i64 0, .int .i64 5, .int .i64 8, .int .i64 13] 2))
  obtain ⟨w_17, hw_17⟩ : ∃ x, w_15.alloc (.cells #[.int .i64 0, .int .i64 5, .int .i64 8, .int .i64 13] 2) = x := ⟨_, rfl⟩
  rw [hw_17] at RL S1 S2 S3 RG S4 RM RN T1 bel ⊢
  clear hw_17
  refine (same_is rfl _ _ _ S1 T1 (by decide)).mono ?_
  rintro e w_18 ⟨rfl, d18⟩
  have RL := RL.below d18
  have S1 := S1.below d18
  have S2 := S2.below d18
  have S3 := S3.below d18
  have RG := RG.below d18
  have S4 := S4.below d18
  have RM := RM.below d18
  have RN := RN.below d18
  have T1 := T1.below d18
  have bel := below_seq bel d18
  go_wp2_with fail
  have T2 := RowI.lit (k := .i64) w_18 [3, 8, 16, 21] 2 4 #[.int .i64 3, .int .i64 8, .int .i64 16, .int .i64 21] rfl rfl
  have RL := RL.below (below_alloc w_18 (.cells #[.int .i64 3, .int .i64 8, .int .i64 16, .int .i64 21] 2))
  have S1 := S1.below (below_alloc w_18 (.cells #[.int .i64 3, .int .i64 8, .int .i64 16, .int .i64 21] 2))
  have S2 := S2.below (below_alloc w_18 (.cells #[.int .i64 3, .int .i64 8, .int .i64 16, .int .i64 21] 2))
  have S3 := S3.below (below_alloc w_18 (.cells #[.int .i64 3, .int .i64 8, .int .i64 16, .int .i64 21] 2))
  have RG := RG.below (below_alloc w_18 (.cells #[.int .i64 3, .int .i64 8, .int .i64 16, .int .i64 21] 2))
  have S4 := S4.below (below_alloc w_18 (.cells #[.int .i64 3, .int .i64 8, .int .i64 16, .int .i64 21] 2))
  have RM := RM.below (below_alloc w_18 (.cells #[.int .i64 3, .int .i64 8, .int .i64 16, .int .i64 21] 2))
  have RN := RN.below (below_alloc w_18 (.cells #[.int .i64 3, .int .i64 8, .int .i64 16, .int .i64 21] 2))
  have T1 := T1.below (below_alloc w_18 (.cells #[.int .i64 3, .int .i64 8, .int .i64 16, .int .i64 21] 2))
  have bel := below_seq bel (below_alloc w_18 (.cells #[.int .i64 3, .int .i64 8, .int .i64 16, .int .i64 21] 2))
  obtain ⟨w_20, hw_20⟩ : ∃ x, w_18.alloc (.cells #[.int .i64 3, .int .i64 8, .int .i64 16, .int .i64 21] 2) = x := ⟨_, rfl⟩
  rw [hw_20] at RL S1 S2 S3 RG S4 RM RN T1 T2 bel ⊢
  clear hw_20
  refine (same_is rfl _ _ _ S2 T2 (by decide)).mono ?_
  rintro e w_21 ⟨rfl, d21⟩
  have RL := RL.below d21
  have S1 := S1.below d21
  have S2 := S2.below d21
  have S3 := S3.below d21
  have RG := RG.below d21
  have S4 := S4.below d21
  have RM := RM.below d21
  have RN := RN.below d21
  have T1 := T1.below d21
  have T2 := T2.below d21
  have bel := below_seq bel d21
  go_wp2_with fail
  have T3 := RowI.lit (k := .i64) w_21 [4, 9, 16, 21] 2 4 #[.int .i64 4, .int .i64 9, .int .i64 16, .int .i64 21] rfl rfl
  have RL := RL.below (below_alloc w_21 (.cells #[.int .i64 4, .int .i64 9, .int .i64 16, .int .i64 21] 2))
  have S1 := S1.below (below_alloc w_21 (.cells #[.int .i64 4, .int .i64 9, .int .i64 16, .int .i64 21] 2))
  have S2 := S2.below (below_alloc w_21 (.cells #[.int .i64 4, .int .i64 9, .int .i64 16, .int .i64 21] 2))
  have S3 := S3.below (below_alloc w_21 (.cells #[.int .i64 4, .int .i64 9, .int .i64 16, .int .i64 21] 2))
  have RG := RG.below (below_alloc w_21 (.cells #[.int .i64 4, .int .i64 9, .int .i64 16, .int .i64 21] 2))
  have S4 := S4.below (below_alloc w_21 (.cells #[.int .i64 4, .int .i64 9, .int .i64 16, .int .i64 21] 2))
  have RM := RM.below (below_alloc w_21 (.cells #[.int .i64 4, .int .i64 9, .int .i64 16, .int .i64 21] 2))
  have RN := RN.below (below_alloc w_21 (.cells #[.int .i64 4, .int .i64 9, .int .i64 16, .int .i64 21] 2))
  have T1 := T1.below (below_alloc w_21 (.cells #[.int .i64 4, .int .i64 9, .int .i64 16, .int .i64 21] 2))
  have T2 := T2.below (below_alloc w_21 (.cells #[.int .i64 4, .int .i64 9, .int .i64 16, .int .i64 21] 2))
  have bel := below_seq bel (below_alloc w_21 (.cells #[.int .i64 4, .int .i64 9, .int .i64 16, .int .i64 21] 2))
  obtain ⟨w_23, hw_23⟩ : ∃ x, w_21.alloc (.cells #[.int .i64 4, .int .i64 9, .int .i64 16, .int .i64 21] 2) = x := ⟨_, rfl⟩
  rw [hw_23] at RL S1 S2 S3 RG S4 RM RN T1 T2 T3 bel ⊢
  clear hw_23
  refine (same_is rfl _ _ _ S3 T3 (by decide)).mono ?_
  rintro e w_24 ⟨rfl, d24⟩
  have RL := RL.below d24
  have S1 := S1.below d24
  have S2 := S2.below d24
  have S3 := S3.below d24
  have RG := RG.below d24
  have S4 := S4.below d24
  have RM := RM.below d24
  have RN := RN.below d24
  have T1 := T1.below d24
  have T2 := T2.below d24
  have T3 := T3.below d24
  have bel := below_seq bel d24
  go_wp2_with fail
  have T4 := RowI.lit (k := .i64) w_24 [0, 5, 5] 2 3 #[.int .i64 0, .int .i64 5, .int .i64 5] rfl rfl
  have RL := RL.below (below_alloc w_24 (.cells #[.int .i64 0, .int .i64 5, .int .i64 5] 2))
  have S1 := S1.below (below_alloc w_24 (.cells #[.int .i64 0, .int .i64 5, .int .i64 5] 2))
  have S2 := S2.below (below_alloc w_24 (.cells #[.int .i64 0, .int .i64 5, .int .i64 5] 2))
  have S3 := S3.below (below_alloc w_24 (.cells #[.int .i64 0, .int .i64 5, .int .i64 5] 2))
  have RG := RG.below (below_alloc w_24 (.cells #[.int .i64 0, .int .i64 5, .int .i64 5] 2))
  have S4 := S4.below (below_alloc w_24 (.cells #[.int .i64 0, .int .i64 5, .int .i64 5] 2))
  have RM := RM.below (below_alloc w_24 (.cells #[.int .i64 0, .int .i64 5, .int .i64 5] 2))
  have RN := RN.below (below_alloc w_24 (.cells #[.int .i64 0, .int .i64 5, .int .i64 5] 2))
  have T1 := T1.below (below_alloc w_24 (.cells #[.int .i64 0, .int .i64 5, .int .i64 5] 2))
  have T2 := T2.below (below_alloc w_24 (.cells #[.int .i64 0, .int .i64 5, .int .i64 5] 2))
  have T3 := T3.below (below_alloc w_24 (.cells #[.int .i64 0, .int .i64 5, .int .i64 5] 2))
  have bel := below_seq bel (below_alloc w_24 (.cells #[.int .i64 0, .int .i64 5, .int .i64 5] 2))
  obtain ⟨w_26, hw_26⟩ : ∃ x, w_24.alloc (.cells #[.int .i64 0, .int .i64 5, .int .i64 5] 2) = x := ⟨_, rfl⟩
  rw [hw_26] at RL S1 S2 S3 RG S4 RM RN T1 T2 T3 T4 bel ⊢
  clear hw_26
  refine (same_is rfl _ _ _ S4 T4 (by decide)).mono ?_
  rintro e w_27 ⟨rfl, d27⟩
  have RL := RL.below d27
  have S1 := S1.below d27
  have S2 := S2.below d27
  have S3 := S3.below d27
  have RG := RG.below d27
  have S4 := S4.below d27
  have RM := RM.below d27
  have RN := RN.below d27
  have T1 := T1.below d27
  have T2 := T2.below d27
  have T3 := T3.below d27
  have T4 := T4.below d27
  have bel := below_seq bel d27
  go_wp2_with fail
  go_ret
  exact ⟨rfl, bel⟩
end Go.Proofs.Ytpaaicbgehpdiaa.Ta
