/- Contracts of the law's becomes and head. Conditions: the slices read as kinds and roles; the answers are the document's. -/
import Derived.Test.YtddihpiheopleaaTmRow
import Derived.Test.YtddihpiheopleaaTmSame
namespace Go.Proofs.Ytddihpiheopleaa.Tm
open Go.ChangeShapes Go.WideShapes Go.ChangeAt Go.RowKit
open Ce
open Ta (W64)

theorem rowL_ok (ks : List Int) : ∀ c ∈ rowL ks, W64 c.adv := fun c hc => by
  obtain ⟨k, _, rfl⟩ := List.mem_map.1 hc
  unfold rowC W64
  simp only
  split <;> omega
theorem fits_is {l : List Cl} {x z e : Int} (h : fitsV l x = (z, e)) (v : Value) (w : World) (hR : RwCl w v l) (hlen : l.length ≤ 1048576) (hx : W64 x) (ha : ∀ c ∈ l, W64 c.adv) :
    Calls Try.prog 8 #[v, .int .i64 x] w fun e' w' => e' = .returned (.tuple #[.int .i64 z, .int .i64 e]) ∧ Below w.heap.size w w' := by
  have := fits_any l v x w hR hlen hx ha
  rwa [h] at this
theorem goes_is {l : List Cl} {x z e : Int} (h : goesV l x = (z, e)) (v : Value) (w : World) (hR : RwCl w v l) (hlen : l.length ≤ 1048576) (hx : W64 x) (ha : ∀ c ∈ l, W64 c.adv) :
    Calls Try.prog 10 #[v, .int .i64 x] w fun e' w' => e' = .returned (.tuple #[.int .i64 z, .int .i64 e]) ∧ Below w.heap.size w w' := by
  have := goes_any l v x w hR hlen hx ha
  rwa [h] at this
theorem blank_is {l : List Cl} {b : Bool} (h : blankV l = b) (v : Value) (w : World) (hR : RwCl w v l) (hlen : l.length ≤ 1048576) :
    Calls Try.prog 15 #[v] w fun e w' => e = .returned (.bool b) ∧ Below w.heap.size w w' := by
  have := blank_any l v w hR hlen
  rwa [h] at this
/-- Roles, as a row -/
theorem roles_row (l : List Cl) (v : Value) (w : World) (hR : RwCl w v l) (hlen : l.length ≤ 1048576) :
    Calls Try.prog 13 #[v] w fun e w' => ∃ g, e = .returned (.slice (some ⟨g, 0, none⟩) l.length l.length) ∧ RowI .u8 w' (.slice (some ⟨g, 0, none⟩) l.length l.length) (rolesV l) ∧ Below w.heap.size w w' := by
  refine (roles_any l v w hR hlen).mono ?_
  rintro e w' ⟨g, rfl, hg, B, b⟩
  exact ⟨g, rfl, row_blk B (rolesV_map l) (rolesV_len l), b⟩
theorem sameB_is {l m : List Int} (h : l = m) (v1 v2 : Value) (w : World) (h1 : RowI .u8 w v1 l) (h2 : RowI .u8 w v2 m) (hn : l.length ≤ 1048577) :
    Calls Try.prog 12 #[v1, v2] w fun e w' => e = .returned (.bool true) ∧ Below w.heap.size w w' := by
  have := sameB_any l m v1 v2 w h1 h2 hn
  rw [decide_eq_true h] at this
  exact this

set_option maxRecDepth 100000 in
set_option maxHeartbeats 1000000 in
theorem becomes_any {ks rs : List Int} {f g : Int} (hF : fitsV (rowL ks) 0 = (f, 0)) (hG : goesV (rowL ks) 0 = (g, 0)) (hRo : rolesV (rowL ks) = rs) (v vr : Value) (w : World) (h1 : RowI .u8 w v ks) (h2 : RowI .u8 w vr rs) (hn : ks.length ≤ 100) :
    Calls Try.prog 20 #[v, vr, .int .i64 f, .int .i64 g] w fun e w' => e = .returned (.bool true) ∧ Below w.heap.size w w' := by
  have hl : (rowL ks).length ≤ 1048576 := by unfold rowL; rw [List.length_map]; omega
  have C := Lib.hid (row_any ks v w h1 (by omega))
  have CF := Lib.hid (fun u W (hR : RwCl W u (rowL ks)) => fits_is hF u W hR hl (by unfold W64; decide) (rowL_ok ks))
  have CG := Lib.hid (fun u W (hR : RwCl W u (rowL ks)) => goes_is hG u W hR hl (by unfold W64; decide) (rowL_ok ks))
  have CR := Lib.hid (fun u W (hR : RwCl W u (rowL ks)) => roles_row (rowL ks) u W hR hl)
  have CS := Lib.hid (fun u1 W (a1 : RowI .u8 W u1 (rolesV (rowL ks))) (a2 : RowI .u8 W vr rs) => sameB_is hRo u1 vr W a1 a2 (by rw [rolesV_len]; omega))
  have H2 := Lib.hid h2
  obtain ⟨A, cap, rfl⟩ := h1.form
  obtain ⟨A2, cap2, rfl⟩ := h2.form
  clear hF hG hRo h1 h2 hn hl
  go_enter Try.func20, Try.ntmps20
  go_wp2_with fail
  refine C.out.mono ?_
  rintro e w1 ⟨u, rfl, R1, b1⟩
  have HR1 := Lib.hid R1
  obtain ⟨A1, c1, rfl⟩ := R1.form
  have H2 := Lib.hid (H2.out.below b1)
  clear R1 C
  go_wp2_with fail
  refine (CF.out _ w1 HR1.out).mono ?_
  rintro e w2 ⟨rfl, b2⟩
  have HR1 := Lib.hid (HR1.out.below b2)
  have H2 := Lib.hid (H2.out.below b2)
  have b2 := below_seq b1 b2
  clear b1
  go_wp2_with fail
  refine (CG.out _ w2 HR1.out).mono ?_
  rintro e w3 ⟨rfl, b3⟩
  have HR1 := Lib.hid (HR1.out.below b3)
  have H2 := Lib.hid (H2.out.below b3)
  have b3 := below_seq b2 b3
  clear b2
  go_wp2_with fail
  refine (CR.out _ w3 HR1.out).mono ?_
  rintro e w4 ⟨gb, rfl, S4, b4⟩
  have H2 := Lib.hid (H2.out.below b4)
  have C5 := Lib.hid (CS.out _ w4 S4 H2.out)
  have b4 := below_seq b3 b4
  clear b3 S4 CF CG CR CS HR1
  go_wp2_with fail
  refine C5.out.mono ?_
  rintro e w5 ⟨rfl, b5⟩
  go_wp2_with fail
  go_ret
  exact ⟨rfl, below_seq b4 b5⟩

theorem ex0 : fitsV (rowL [1, 7, 1, 0, 1, 0, 1, 8]) 0 = (19, 0) ∧ goesV (rowL [1, 7, 1, 0, 1, 0, 1, 8]) 0 = (19, 0) ∧ rolesV (rowL [1, 7, 1, 0, 1, 0, 1, 8]) = [1, 0, 1, 0, 0, 0, 1, 0] := by decide +kernel
theorem ex1 : fitsV (rowL [0, 2, 2, 8]) 0 = (7, 0) ∧ goesV (rowL [0, 2, 2, 8]) 0 = (17, 0) ∧ rolesV (rowL [0, 2, 2, 8]) = [0, 2, 2, 0] := by decide +kernel
theorem ex2 : fitsV (rowL [0, 1, 2]) 0 = (10, 0) ∧ goesV (rowL [0, 1, 2]) 0 = (15, 0) ∧ rolesV (rowL [0, 1, 2]) = [0, 0, 2] := by decide +kernel
theorem ex3 : fitsV (rowL [0, 2, 1]) 0 = (5, 0) ∧ goesV (rowL [0, 2, 1]) 0 = (10, 0) ∧ rolesV (rowL [0, 2, 1]) = [0, 2, 1] := by decide +kernel
theorem ex4 : fitsV (rowL [1, 1]) 0 = (0, 0) ∧ goesV (rowL [1, 1]) 0 = (0, 0) ∧ rolesV (rowL [1, 1]) = [1, 1] := by decide +kernel
theorem ex5 : fitsV (rowL [2]) 0 = (0, 0) ∧ goesV (rowL [2]) 0 = (5, 0) ∧ rolesV (rowL [2]) = [2] := by decide +kernel
theorem ex6 : blankV (rowL [7, 1, 5]) = true := by decide +kernel
theorem ex7 : blankV (rowL [2]) = false := by decide +kernel

set_option maxRecDepth 100000 in
set_option maxHeartbeats 4000000 in
theorem hdT_any (w : World) : Calls Try.prog 7 #[] w fun e w' => e = .returned (.bool true) ∧ Below w.heap.size w w' := by
  go_enter Try.func7, Try.ntmps7
  go_wp2_with fail
  have K0 := RowI.lit (k := .u8) w [1, 7, 1, 0, 1, 0, 1, 8] 5 8 #[.int .u8 1, .int .u8 7, .int .u8 1, .int .u8 0, .int .u8 1, .int .u8 0, .int .u8 1, .int .u8 8] rfl rfl
  have bel := (below_alloc w (.cells #[.int .u8 1, .int .u8 7, .int .u8 1, .int .u8 0, .int .u8 1, .int .u8 0, .int .u8 1, .int .u8 8] 5))
  have R0 := RowI.lit (k := .u8) (w.alloc (.cells #[.int .u8 1, .int .u8 7, .int .u8 1, .int .u8 0, .int .u8 1, .int .u8 0, .int .u8 1, .int .u8 8] 5)) [1, 0, 1, 0, 0, 0, 1, 0] 5 8 #[.int .u8 1, .int .u8 0, .int .u8 1, .int .u8 0, .int .u8 0, .int .u8 0, .int .u8 1, .int .u8 0] rfl rfl
  simp only [World.size_alloc] at R0
  have K0 := K0.below (below_alloc (w.alloc (.cells #[.int .u8 1, .int .u8 7, .int .u8 1, .int .u8 0, .int .u8 1, .int .u8 0, .int .u8 1, .int .u8 8] 5)) (.cells #[.int .u8 1, .int .u8 0, .int .u8 1, .int .u8 0, .int .u8 0, .int .u8 0, .int .u8 1, .int .u8 0] 5))
  have bel := below_seq bel (below_alloc (w.alloc (.cells #[.int .u8 1, .int .u8 7, .int .u8 1, .int .u8 0, .int .u8 1, .int .u8 0, .int .u8 1, .int .u8 8] 5)) (.cells #[.int .u8 1, .int .u8 0, .int .u8 1, .int .u8 0, .int .u8 0, .int .u8 0, .int .u8 1, .int .u8 0] 5))
  obtain ⟨w_3, hw_3⟩ : ∃ x, (w.alloc (.cells #[.int .u8 1, .int .u8 7, .int .u8 1, .int .u8 0, .int .u8 1, .int .u8 0, .int .u8 1, .int .u8 8] 5)).alloc (.cells #[.int .u8 1, .int .u8 0, .int .u8 1, .int .u8 0, .int .u8 0, .int .u8 0, .int .u8 1, .int .u8 0] 5) = x := ⟨_, rfl⟩
  rw [hw_3] at K0 R0 bel ⊢
  clear hw_3
  refine (becomes_any ex0.1 ex0.2.1 ex0.2.2 _ _ _ K0 R0 (by decide)).mono ?_
  rintro e w_4 ⟨rfl, d4⟩
  have K0 := K0.below d4
  have R0 := R0.below d4
  have bel := below_seq bel d4
  go_wp2_with fail
  have K1 := RowI.lit (k := .u8) w_4 [0, 2, 2, 8] 5 4 #[.int .u8 0, .int .u8 2, .int .u8 2, .int .u8 8] rfl rfl
  have bel := below_seq bel (below_alloc w_4 (.cells #[.int .u8 0, .int .u8 2, .int .u8 2, .int .u8 8] 5))
  have R1 := RowI.lit (k := .u8) (w_4.alloc (.cells #[.int .u8 0, .int .u8 2, .int .u8 2, .int .u8 8] 5)) [0, 2, 2, 0] 5 4 #[.int .u8 0, .int .u8 2, .int .u8 2, .int .u8 0] rfl rfl
  simp only [World.size_alloc] at R1
  have K1 := K1.below (below_alloc (w_4.alloc (.cells #[.int .u8 0, .int .u8 2, .int .u8 2, .int .u8 8] 5)) (.cells #[.int .u8 0, .int .u8 2, .int .u8 2, .int .u8 0] 5))
  have bel := below_seq bel (below_alloc (w_4.alloc (.cells #[.int .u8 0, .int .u8 2, .int .u8 2, .int .u8 8] 5)) (.cells #[.int .u8 0, .int .u8 2, .int .u8 2, .int .u8 0] 5))
  obtain ⟨w_7, hw_7⟩ : ∃ x, (w_4.alloc (.cells #[.int .u8 0, .int .u8 2, .int .u8 2, .int .u8 8] 5)).alloc (.cells #[.int .u8 0, .int .u8 2, .int .u8 2, .int .u8 0] 5) = x := ⟨_, rfl⟩
  rw [hw_7] at K1 R1 bel ⊢
  clear hw_7
  refine (becomes_any ex1.1 ex1.2.1 ex1.2.2 _ _ _ K1 R1 (by decide)).mono ?_
  rintro e w_8 ⟨rfl, d8⟩
  have K1 := K1.below d8
  have R1 := R1.below d8
  have bel := below_seq bel d8
  go_wp2_with fail
  have K2 := RowI.lit (k := .u8) w_8 [0, 1, 2] 5 3 #[.int .u8 0, .int .u8 1, .int .u8 2] rfl rfl
  have bel := below_seq bel (below_alloc w_8 (.cells #[.int .u8 0, .int .u8 1, .int .u8 2] 5))
  have R2 := RowI.lit (k := .u8) (w_8.alloc (.cells #[.int .u8 0, .int .u8 1, .int .u8 2] 5)) [0, 0, 2] 5 3 #[.int .u8 0, .int .u8 0, .int .u8 2] rfl rfl
  simp only [World.size_alloc] at R2
  have K2 := K2.below (below_alloc (w_8.alloc (.cells #[.int .u8 0, .int .u8 1, .int .u8 2] 5)) (.cells #[.int .u8 0, .int .u8 0, .int .u8 2] 5))
  have bel := below_seq bel (below_alloc (w_8.alloc (.cells #[.int .u8 0, .int .u8 1, .int .u8 2] 5)) (.cells #[.int .u8 0, .int .u8 0, .int .u8 2] 5))
  obtain ⟨w_11, hw_11⟩ : ∃ x, (w_8.alloc (.cells #[.int .u8 0, .int .u8 1, .int .u8 2] 5)).alloc (.cells #[.int .u8 0, .int .u8 0, .int .u8 2] 5) = x := ⟨_, rfl⟩
  rw [hw_11] at K2 R2 bel ⊢
  clear hw_11
  refine (becomes_any ex2.1 ex2.2.1 ex2.2.2 _ _ _ K2 R2 (by decide)).mono ?_
  rintro e w_12 ⟨rfl, d12⟩
  have K2 := K2.below d12
  have R2 := R2.below d12
  have bel := below_seq bel d12
  go_wp2_with fail
  have K3 := RowI.lit (k := .u8) w_12 [0, 2, 1] 5 3 #[.int .u8 0, .int .u8 2, .int .u8 1] rfl rfl
  have bel := below_seq bel (below_alloc w_12 (.cells #[.int .u8 0, .int .u8 2, .int .u8 1] 5))
  have R3 := RowI.lit (k := .u8) (w_12.alloc (.cells #[.int .u8 0, .int .u8 2, .int .u8 1] 5)) [0, 2, 1] 5 3 #[.int .u8 0, .int .u8 2, .int .u8 1] rfl rfl
  simp only [World.size_alloc] at R3
  have K3 := K3.below (below_alloc (w_12.alloc (.cells #[.int .u8 0, .int .u8 2, .int .u8 1] 5)) (.cells #[.int .u8 0, .int .u8 2, .int .u8 1] 5))
  have bel := below_seq bel (below_alloc (w_12.alloc (.cells #[.int .u8 0, .int .u8 2, .int .u8 1] 5)) (.cells #[.int .u8 0, .int .u8 2, .int .u8 1] 5))
  obtain ⟨w_15, hw_15⟩ : ∃ x, (w_12.alloc (.cells #[.int .u8 0, .int .u8 2, .int .u8 1] 5)).alloc (.cells #[.int .u8 0, .int .u8 2, .int .u8 1] 5) = x := ⟨_, rfl⟩
  rw [hw_15] at K3 R3 bel ⊢
  clear hw_15
  refine (becomes_any ex3.1 ex3.2.1 ex3.2.2 _ _ _ K3 R3 (by decide)).mono ?_
  rintro e w_16 ⟨rfl, d16⟩
  have K3 := K3.below d16
  have R3 := R3.below d16
  have bel := below_seq bel d16
  go_wp2_with fail
  have K4 := RowI.lit (k := .u8) w_16 [1, 1] 5 2 #[.int .u8 1, .int .u8 1] rfl rfl
  have bel := below_seq bel (below_alloc w_16 (.cells #[.int .u8 1, .int .u8 1] 5))
  have R4 := RowI.lit (k := .u8) (w_16.alloc (.cells #[.int .u8 1, .int .u8 1] 5)) [1, 1] 5 2 #[.int .u8 1, .int .u8 1] rfl rfl
  simp only [World.size_alloc] at R4
  have K4 := K4.below (below_alloc (w_16.alloc (.cells #[.int .u8 1, .int .u8 1] 5)) (.cells #[.int .u8 1, .int .u8 1] 5))
  have bel := below_seq bel (below_alloc (w_16.alloc (.cells #[.int .u8 1, .int .u8 1] 5)) (.cells #[.int .u8 1, .int .u8 1] 5))
  obtain ⟨w_19, hw_19⟩ : ∃ x, (w_16.alloc (.cells #[.int .u8 1, .int .u8 1] 5)).alloc (.cells #[.int .u8 1, .int .u8 1] 5) = x := ⟨_, rfl⟩
  rw [hw_19] at K4 R4 bel ⊢
  clear hw_19
  refine (becomes_any ex4.1 ex4.2.1 ex4.2.2 _ _ _ K4 R4 (by decide)).mono ?_
  rintro e w_20 ⟨rfl, d20⟩
  have K4 := K4.below d20
  have R4 := R4.below d20
  have bel := below_seq bel d20
  go_wp2_with fail
  have K5 := RowI.lit (k := .u8) w_20 [2] 5 1 #[.int .u8 2] rfl rfl
  have bel := below_seq bel (below_alloc w_20 (.cells #[.int .u8 2] 5))
  have R5 := RowI.lit (k := .u8) (w_20.alloc (.cells #[.int .u8 2] 5)) [2] 5 1 #[.int .u8 2] rfl rfl
  simp only [World.size_alloc] at R5
  have K5 := K5.below (below_alloc (w_20.alloc (.cells #[.int .u8 2] 5)) (.cells #[.int .u8 2] 5))
  have bel := below_seq bel (below_alloc (w_20.alloc (.cells #[.int .u8 2] 5)) (.cells #[.int .u8 2] 5))
  obtain ⟨w_23, hw_23⟩ : ∃ x, (w_20.alloc (.cells #[.int .u8 2] 5)).alloc (.cells #[.int .u8 2] 5) = x := ⟨_, rfl⟩
  rw [hw_23] at K5 R5 bel ⊢
  clear hw_23
  refine (becomes_any ex5.1 ex5.2.1 ex5.2.2 _ _ _ K5 R5 (by decide)).mono ?_
  rintro e w_24 ⟨rfl, d24⟩
  have K5 := K5.below d24
  have R5 := R5.below d24
  have bel := below_seq bel d24
  go_wp2_with fail
  have K6 := RowI.lit (k := .u8) w_24 [7, 1, 5] 5 3 #[.int .u8 7, .int .u8 1, .int .u8 5] rfl rfl
  have bel := below_seq bel (below_alloc w_24 (.cells #[.int .u8 7, .int .u8 1, .int .u8 5] 5))
  obtain ⟨w_26, hw_26⟩ : ∃ x, w_24.alloc (.cells #[.int .u8 7, .int .u8 1, .int .u8 5] 5) = x := ⟨_, rfl⟩
  rw [hw_26] at K6 bel ⊢
  clear hw_26
  refine (row_any _ _ _ K6 (by decide)).mono ?_
  rintro e w_27 ⟨u6, rfl, S6, d27⟩
  have K6 := K6.below d27
  have bel := below_seq bel d27
  obtain ⟨A6, c6, rfl⟩ := S6.form
  go_wp2_with fail
  refine (blank_is ex6 _ _ S6 (by decide)).mono ?_
  rintro e w_28 ⟨rfl, d28⟩
  have K6 := K6.below d28
  have S6 := S6.below d28
  have bel := below_seq bel d28
  go_wp2_with fail
  have K7 := RowI.lit (k := .u8) w_28 [2] 5 1 #[.int .u8 2] rfl rfl
  have bel := below_seq bel (below_alloc w_28 (.cells #[.int .u8 2] 5))
  obtain ⟨w_30, hw_30⟩ : ∃ x, w_28.alloc (.cells #[.int .u8 2] 5) = x := ⟨_, rfl⟩
  rw [hw_30] at K7 bel ⊢
  clear hw_30
  refine (row_any _ _ _ K7 (by decide)).mono ?_
  rintro e w_31 ⟨u7, rfl, S7, d31⟩
  have K7 := K7.below d31
  have bel := below_seq bel d31
  obtain ⟨A7, c7, rfl⟩ := S7.form
  go_wp2_with fail
  refine (blank_is ex7 _ _ S7 (by decide)).mono ?_
  rintro e w_32 ⟨rfl, d32⟩
  have K7 := K7.below d32
  have S7 := S7.below d32
  have bel := below_seq bel d32
  go_wp2_with fail
  go_ret
  exact ⟨rfl, bel⟩
end Go.Proofs.Ytddihpiheopleaa.Tm
