/- Contracts of white's functions that tell what a character is, and of the steps' functions that tell what goes. Condition where a number's width counts: class's table lies in memory. -/
import Derived.Test.YtejcfhfmdijimaaDoorWhRow
import Derived.Test.YtejcfhfmdijimaaDoorCWide
namespace Go.Proofs.YtejcfhfmdijimaaDoor
open Go.ChangeShapes Go.WideShapes Go.ChangeAt Go.RowKit
open Wh

structure Mk (P : Prop) : Prop where
  out : P
set_option maxHeartbeats 1000000 in
theorem vkind_any (k : Int) (w : World) :
    Calls Tryd.prog 34 #[.int .u8 k] w fun e w' => e = .returned (.bool (decide (k = 0) || decide (k = 6) || decide (k = 5))) ∧ w = w' := by
  by_cases h0 : k = 0
  · subst h0
    go_enter Tryd.func34, Tryd.ntmps34
    go_wp2
    go_ret
    exact ⟨retb (by simp), rfl⟩
  · by_cases h6 : k = 6
    · subst h6
      go_enter Tryd.func34, Tryd.ntmps34
      go_wp2
      go_ret
      exact ⟨retb (by simp), rfl⟩
    · have e0 : (k == 0) = false := by simpa using h0
      have e6 : (k == 6) = false := by simpa using h6
      by_cases h5 : k = 5
      · subst h5
        go_enter Tryd.func34, Tryd.ntmps34
        go_wp2
        go_ret
        exact ⟨retb (by simp), rfl⟩
      · have e5 : (k == 5) = false := by simpa using h5
        go_enter Tryd.func34, Tryd.ntmps34
        go_wp2
        go_ret
        exact ⟨retb (by simp [h0, h5, h6]), rfl⟩


set_option maxHeartbeats 2000000 in
theorem wcolls_any (s : Sty) (w : World) :
    Calls Tryd.prog 12 #[.agg s.cells] w fun e w' => e = .returned (.bool (collW s.a0)) ∧ Below w.heap.size w w' := by
  unfold Sty.cells
  obtain ⟨x, hx⟩ : ∃ x, s.a0 = x := ⟨_, rfl⟩
  rw [hx]
  clear hx
  by_cases h0 : x = 0
  · subst h0
    go_enter Tryd.func12, Tryd.ntmps12
    go_wp2
    go_ret
    exact ⟨retb (by decide), below_alloc _ _⟩
  · have e0 : (x == 0) = false := by simpa using h0
    by_cases h1 : x = 1
    · subst h1
      go_enter Tryd.func12, Tryd.ntmps12
      go_wp2
      go_ret
      exact ⟨retb (by decide), below_alloc _ _⟩
    · have e1 : (x == 1) = false := by simpa using h1
      by_cases h4 : x = 4
      · subst h4
        go_enter Tryd.func12, Tryd.ntmps12
        go_wp2
        go_ret
        exact ⟨retb (by decide), below_alloc _ _⟩
      · have e4 : (x == 4) = false := by simpa using h4
        go_enter Tryd.func12, Tryd.ntmps12
        go_wp2
        go_ret
        exact ⟨retb (by simp [collW, h0, h1, h4]), below_alloc _ _⟩

set_option maxHeartbeats 2000000 in
theorem wis_any (x : Cw) (r : Int) (w : World) :
    Calls Tryd.prog 36 #[.agg (cwA x), .int .i32 r] w fun e w' => e = .returned (.bool (isW x r)) ∧ Below w.heap.size w w' := by
  obtain ⟨⟨xr, xn, xa, xl, xk⟩, xw⟩ := x
  have hv : isW ⟨⟨xr, xn, xa, xl, xk⟩, xw⟩ r = (decide (xk = 0) && decide (xr = r)) := rfl
  rw [hv]
  clear hv
  unfold cwA
  dsimp only
  by_cases h0 : xk = 0
  · subst h0
    by_cases hr : xr = r
    · subst hr
      go_enter Tryd.func36, Tryd.ntmps36
      go_wp2
      go_ret
      exact ⟨retb (by simp), below_alloc _ _⟩
    · have er : (xr == r) = false := by simpa using hr
      go_enter Tryd.func36, Tryd.ntmps36
      go_wp2
      go_ret
      exact ⟨retb (by simp [hr]), below_alloc _ _⟩
  · have e0 : (xk == 0) = false := by simpa using h0
    go_enter Tryd.func36, Tryd.ntmps36
    go_wp2
    go_ret
    exact ⟨retb (by simp [h0]), below_alloc _ _⟩


set_option maxRecDepth 100000 in
set_option maxHeartbeats 4000000 in
theorem wend_any (x : Cw) (w : World) :
    Calls Tryd.prog 39 #[.agg (cwA x)] w fun e w' => e = .returned (.bool (endW x)) ∧ Below w.heap.size w w' := by
  have hval : endW x = (isW x 10 || isW x 13) := rfl
  rw [hval]
  clear hval
  obtain ⟨c1, h1⟩ : ∃ q, isW x 10 = q := ⟨_, rfl⟩
  obtain ⟨c2, h2⟩ : ∃ q, isW x 13 = q := ⟨_, rfl⟩
  rw [h1, h2]
  have H1 := Lib.hid h1
  have H2 := Lib.hid h2
  clear h1 h2
  have K0 := Kn.nil w
  have t0 := Below.refl w.heap.size w
  go_enter Tryd.func39, Tryd.ntmps39
  go_wp2_with (first | (refine bxWV rfl (.tmp 0) rfl x rfl ?_; intro v1 b1 B1; have K1 := K0.cons b1 B1; have t1 := below_seq t0 b1; clear b1 B1) | (refine ldW rfl (.tmp 1) rfl _ rfl x (K1.at_ 0 rfl).lies ?_))
  refine (wis_any x 10 _).mono ?_
  rw [H1.out]
  rintro e u2 ⟨rfl, d2⟩
  have K2 := K1.below d2
  have t2 := below_seq t1 d2
  cases c1
  · skip
    go_wp2_with (first | (refine ldWIf (by kernel_rfl) (.tmp 1) rfl _ rfl x (K2.at_ 0 rfl).lies ?_))
    refine (wis_any x 13 _).mono ?_
    rw [H2.out]
    rintro e u3 ⟨rfl, d3⟩
    have K3 := K2.below d3
    have t3 := below_seq t2 d3
    cases c2
    · skip
      go_wp2_with fail
      go_ret
      exact ⟨retb (by simp), t3⟩
    · skip
      go_wp2_with fail
      go_ret
      exact ⟨retb (by simp), t3⟩
  · skip
    go_wp2_with fail
    go_ret
    exact ⟨retb (by simp), t2⟩


set_option maxRecDepth 100000 in
set_option maxHeartbeats 4000000 in
theorem wsoft_any (x : Cw) (w : World) :
    Calls Tryd.prog 41 #[.agg (cwA x)] w fun e w' => e = .returned (.bool (softW x)) ∧ Below w.heap.size w w' := by
  have hval : softW x = (endW x && (decide (x.w = 0) || decide (x.w = 1))) := rfl
  rw [hval]
  clear hval
  obtain ⟨c1, h1⟩ : ∃ c, endW x = c := ⟨_, rfl⟩
  rw [h1]
  have H1 := Lib.hid h1
  obtain ⟨z, hz⟩ : ∃ z, x.w = z := ⟨_, rfl⟩
  rw [hz]
  have HZ := Lib.hid hz
  clear h1 hz
  have K0 := Kn.nil w
  have t0 := Below.refl w.heap.size w
  go_enter Tryd.func41, Tryd.ntmps41
  go_wp2_with (first | (refine bxWV rfl (.tmp 0) rfl x rfl ?_; intro v1 b1 B1; have K1 := K0.cons b1 B1; have t1 := below_seq t0 b1; clear b1 B1) | (refine ldW rfl (.tmp 1) rfl _ rfl x (K1.at_ 0 rfl).lies ?_))
  refine (wend_any x _).mono ?_
  rw [H1.out]
  rintro e u2 ⟨rfl, d2⟩
  have K2 := K1.below d2
  have t2 := below_seq t1 d2
  have c5 : u2.cell? ⟨w.heap.size, 5, none⟩ = some (.int .u8 z) := by rw [(K2.at_ 0 rfl).cell 5, ← HZ.out]; rfl
  cases c1
  · go_wp2_with fail
    go_ret
    exact ⟨retb (by simp), t2⟩
  · by_cases h0 : z = 0
    · subst h0
      go_wp2_with fail
      go_ret
      exact ⟨retb (by simp), t2⟩
    · have e0 : (z == 0) = false := by simpa using h0
      by_cases h1 : z = 1
      · subst h1
        go_wp2_with fail
        go_ret
        exact ⟨retb (by simp), t2⟩
      · have e1 : (z == 1) = false := by simpa using h1
        go_wp2_with fail
        go_ret
        exact ⟨retb (by simp [h0, h1]), t2⟩


set_option maxRecDepth 100000 in
set_option maxHeartbeats 4000000 in
theorem whard_any (x : Cw) (w : World) :
    Calls Tryd.prog 43 #[.agg (cwA x)] w fun e w' => e = .returned (.bool (hardW x)) ∧ Below w.heap.size w w' := by
  have hval : hardW x = (endW x && !softW x) := rfl
  rw [hval]
  clear hval
  obtain ⟨c1, h1⟩ : ∃ q, endW x = q := ⟨_, rfl⟩
  obtain ⟨c2, h2⟩ : ∃ q, softW x = q := ⟨_, rfl⟩
  rw [h1, h2]
  have H1 := Lib.hid h1
  have H2 := Lib.hid h2
  clear h1 h2
  have K0 := Kn.nil w
  have t0 := Below.refl w.heap.size w
  go_enter Tryd.func43, Tryd.ntmps43
  go_wp2_with (first | (refine bxWV rfl (.tmp 0) rfl x rfl ?_; intro v1 b1 B1; have K1 := K0.cons b1 B1; have t1 := below_seq t0 b1; clear b1 B1) | (refine ldW rfl (.tmp 1) rfl _ rfl x (K1.at_ 0 rfl).lies ?_))
  refine (wend_any x _).mono ?_
  rw [H1.out]
  rintro e u2 ⟨rfl, d2⟩
  have K2 := K1.below d2
  have t2 := below_seq t1 d2
  cases c1
  · skip
    go_wp2_with fail
    go_ret
    exact ⟨retb (by simp), t2⟩
  · skip
    go_wp2_with (first | (refine ldWIf (by kernel_rfl) (.tmp 1) rfl _ rfl x (K2.at_ 0 rfl).lies ?_))
    refine (wsoft_any x _).mono ?_
    rw [H2.out]
    rintro e u3 ⟨rfl, d3⟩
    have K3 := K2.below d3
    have t3 := below_seq t2 d3
    cases c2
    · skip
      go_wp2_with fail
      go_ret
      exact ⟨retb (by simp), t3⟩
    · skip
      go_wp2_with fail
      go_ret
      exact ⟨retb (by simp), t3⟩


set_option maxRecDepth 100000 in
set_option maxHeartbeats 4000000 in
theorem wcol_any (x : Cw) (r : Int) (w : World) :
    Calls Tryd.prog 49 #[.agg (cwA x), .int .i32 r] w fun e w' => e = .returned (.bool (colW x r)) ∧ Below w.heap.size w w' := by
  have hval : colW x r = (isW x r && collW x.w) := rfl
  rw [hval]
  clear hval
  obtain ⟨c1, h1⟩ : ∃ c, isW x r = c := ⟨_, rfl⟩
  rw [h1]
  have H1 := Lib.hid h1
  obtain ⟨z, hz⟩ : ∃ z, x.w = z := ⟨_, rfl⟩
  rw [hz]
  have HZ := Lib.hid hz
  clear h1 hz
  have K0 := Kn.nil w
  have t0 := Below.refl w.heap.size w
  go_enter Tryd.func49, Tryd.ntmps49
  go_wp2_with (first | (refine bxWV rfl (.tmp 0) rfl x rfl ?_; intro v1 b1 B1; have K1 := K0.cons b1 B1; have t1 := below_seq t0 b1; clear b1 B1) | (refine ldW rfl (.tmp 2) rfl _ rfl x (K1.at_ 0 rfl).lies ?_))
  refine (wis_any x r _).mono ?_
  rw [H1.out]
  rintro e u2 ⟨rfl, d2⟩
  have K2 := K1.below d2
  have t2 := below_seq t1 d2
  have c5 : u2.cell? ⟨w.heap.size, 5, none⟩ = some (.int .u8 z) := by rw [(K2.at_ 0 rfl).cell 5, ← HZ.out]; rfl
  cases c1
  · go_wp2_with fail
    go_ret
    exact ⟨retb (by simp), t2⟩
  · have C := Lib.hid (fun w => wcolls_any ⟨z, 0, 0, 0, 0, 0, 0, 0, 0⟩ w)
    go_wp2_with fail
    refine (C.out _).mono ?_
    rintro e u3 ⟨rfl, d3⟩
    go_wp2_with fail
    go_ret
    exact ⟨retb (by simp), below_seq t2 d3⟩

set_option maxRecDepth 100000 in
set_option maxHeartbeats 4000000 in
theorem wwide_any (x : Cw) (w : World) (hT : Tab w) :
    Calls Tryd.prog 63 #[.agg (cwA x)] w fun e w' => e = .returned (.bool (wideW wideB x)) ∧ Below w.heap.size w w' := by
  have hval : wideW wideB x = (decide (x.c.kind = 0) && wideB x.c.r) := rfl
  rw [hval]
  clear hval
  obtain ⟨z, hz⟩ : ∃ z, x.c.kind = z := ⟨_, rfl⟩
  rw [hz]
  have HZ := Lib.hid hz
  obtain ⟨r, hr⟩ : ∃ z, x.c.r = z := ⟨_, rfl⟩
  rw [hr]
  have HR := Lib.hid hr
  obtain ⟨c1, h1⟩ : ∃ c, wideB r = c := ⟨_, rfl⟩
  rw [h1]
  have C := Lib.hid (fun w hT => cwide_is r w hT c1 h1)
  clear h1 hz hr
  have HT := Lib.hid hT
  clear hT
  by_cases h0 : z = 0
  · subst h0
    go_enter Tryd.func63, Tryd.ntmps63
    go_wp2_with (refine bxWV rfl (.tmp 0) rfl x rfl ?_; intro v1 b1 B1; have c4 : v1.cell? ⟨w.heap.size, 4, none⟩ = some (.int .u8 0) := (B1.cell 4).trans (by (show some (Value.int .u8 x.c.kind) = _; rw [HZ.out])); have c0 : v1.cell? ⟨w.heap.size, 0, none⟩ = some (.int .i32 r) := (B1.cell 0).trans (by (show some (Value.int .i32 x.c.r) = _; rw [HR.out])))
    refine (C.out _ (HT.out.below b1)).mono ?_
    rintro e u3 ⟨rfl, d3⟩
    go_wp2_with fail
    go_ret
    exact ⟨retb (by simp), below_seq b1 d3⟩
  · have e0 : (z == 0) = false := by simpa using h0
    go_enter Tryd.func63, Tryd.ntmps63
    go_wp2_with (refine bxWV rfl (.tmp 0) rfl x rfl ?_; intro v1 b1 B1; have c4 : v1.cell? ⟨w.heap.size, 4, none⟩ = some (.int .u8 z) := (B1.cell 4).trans (by (show some (Value.int .u8 x.c.kind) = _; rw [HZ.out])))
    go_ret
    exact ⟨retb (by simp [h0]), b1⟩


set_option maxRecDepth 100000 in
set_option maxHeartbeats 4000000 in
theorem wwht_any (x : Cw) (w : World) :
    Calls Tryd.prog 37 #[.agg (cwA x)] w fun e w' => e = .returned (.bool (whtW x)) ∧ Below w.heap.size w w' := by
  have hval : whtW x = (colW x 32 || colW x 9) := rfl
  rw [hval]
  clear hval
  obtain ⟨c1, h1⟩ : ∃ q, colW x 32 = q := ⟨_, rfl⟩
  obtain ⟨c2, h2⟩ : ∃ q, colW x 9 = q := ⟨_, rfl⟩
  rw [h1, h2]
  have H1 := Lib.hid h1
  have H2 := Lib.hid h2
  clear h1 h2
  have K0 := Kn.nil w
  have t0 := Below.refl w.heap.size w
  go_enter Tryd.func37, Tryd.ntmps37
  go_wp2_with (first | (refine bxWV rfl (.tmp 0) rfl x rfl ?_; intro v1 b1 B1; have K1 := K0.cons b1 B1; have t1 := below_seq t0 b1; clear b1 B1) | (refine ldW rfl (.tmp 1) rfl _ rfl x (K1.at_ 0 rfl).lies ?_))
  refine (wcol_any x 32 _).mono ?_
  rw [H1.out]
  rintro e u2 ⟨rfl, d2⟩
  have K2 := K1.below d2
  have t2 := below_seq t1 d2
  cases c1
  · skip
    go_wp2_with (first | (refine ldWIf (by kernel_rfl) (.tmp 1) rfl _ rfl x (K2.at_ 0 rfl).lies ?_))
    refine (wcol_any x 9 _).mono ?_
    rw [H2.out]
    rintro e u3 ⟨rfl, d3⟩
    have K3 := K2.below d3
    have t3 := below_seq t2 d3
    cases c2
    · skip
      go_wp2_with fail
      go_ret
      exact ⟨retb (by simp), t3⟩
    · skip
      go_wp2_with fail
      go_ret
      exact ⟨retb (by simp), t3⟩
  · skip
    go_wp2_with fail
    go_ret
    exact ⟨retb (by simp), t2⟩


set_option maxRecDepth 100000 in
set_option maxHeartbeats 4000000 in
theorem g1_any (b c a : Cw) (w : World) :
    Calls Tryd.prog 35 #[.agg (cwA b), .agg (cwA c), .agg (cwA a)] w fun e w' => e = .returned (.bool (g1 b c a)) ∧ Below w.heap.size w w' := by
  have hval : g1 b c a = (isW c 13 && isW a 10) := rfl
  rw [hval]
  clear hval
  obtain ⟨c1, h1⟩ : ∃ q, isW c 13 = q := ⟨_, rfl⟩
  obtain ⟨c2, h2⟩ : ∃ q, isW a 10 = q := ⟨_, rfl⟩
  rw [h1, h2]
  have H1 := Lib.hid h1
  have H2 := Lib.hid h2
  clear h1 h2
  have K0 := Kn.nil w
  have t0 := Below.refl w.heap.size w
  go_enter Tryd.func35, Tryd.ntmps35
  go_wp2_with (first | (refine bxWV rfl (.tmp 0) rfl b rfl ?_; intro v1 b1 B1; have K1 := K0.cons b1 B1; have t1 := below_seq t0 b1; clear b1 B1) | (refine bxWV rfl (.tmp 1) rfl c rfl ?_; intro v2 b2 B2; have K2 := K1.cons b2 B2; have t2 := below_seq t1 b2; clear b2 B2) | (refine bxWV rfl (.tmp 2) rfl a rfl ?_; intro v3 b3 B3; have K3 := K2.cons b3 B3; have t3 := below_seq t2 b3; clear b3 B3) | (refine ldW rfl (.tmp 4) rfl _ rfl c (K3.at_ 1 rfl).lies ?_))
  refine (wis_any c 13 _).mono ?_
  rw [H1.out]
  rintro e u4 ⟨rfl, d4⟩
  have K4 := K3.below d4
  have t4 := below_seq t3 d4
  cases c1
  · skip
    go_wp2_with fail
    go_ret
    exact ⟨retb (by simp), t4⟩
  · skip
    go_wp2_with (first | (refine ldWIf (by kernel_rfl) (.tmp 5) rfl _ rfl a (K4.at_ 0 rfl).lies ?_))
    refine (wis_any a 10 _).mono ?_
    rw [H2.out]
    rintro e u5 ⟨rfl, d5⟩
    have K5 := K4.below d5
    have t5 := below_seq t4 d5
    cases c2
    · skip
      go_wp2_with fail
      go_ret
      exact ⟨retb (by simp), t5⟩
    · skip
      go_wp2_with fail
      go_ret
      exact ⟨retb (by simp), t5⟩


set_option maxRecDepth 100000 in
set_option maxHeartbeats 4000000 in
theorem g2_any (b c a : Cw) (w : World) :
    Calls Tryd.prog 38 #[.agg (cwA b), .agg (cwA c), .agg (cwA a)] w fun e w' => e = .returned (.bool (g2 b c a)) ∧ Below w.heap.size w w' := by
  have hval : g2 b c a = (whtW c && (endW b || endW a)) := rfl
  rw [hval]
  clear hval
  obtain ⟨c1, h1⟩ : ∃ q, whtW c = q := ⟨_, rfl⟩
  obtain ⟨c2, h2⟩ : ∃ q, endW b = q := ⟨_, rfl⟩
  obtain ⟨c3, h3⟩ : ∃ q, endW a = q := ⟨_, rfl⟩
  rw [h1, h2, h3]
  have H1 := Lib.hid h1
  have H2 := Lib.hid h2
  have H3 := Lib.hid h3
  clear h1 h2 h3
  have K0 := Kn.nil w
  have t0 := Below.refl w.heap.size w
  go_enter Tryd.func38, Tryd.ntmps38
  go_wp2_with (first | (refine bxWV rfl (.tmp 0) rfl b rfl ?_; intro v1 b1 B1; have K1 := K0.cons b1 B1; have t1 := below_seq t0 b1; clear b1 B1) | (refine bxWV rfl (.tmp 1) rfl c rfl ?_; intro v2 b2 B2; have K2 := K1.cons b2 B2; have t2 := below_seq t1 b2; clear b2 B2) | (refine bxWV rfl (.tmp 2) rfl a rfl ?_; intro v3 b3 B3; have K3 := K2.cons b3 B3; have t3 := below_seq t2 b3; clear b3 B3) | (refine ldW rfl (.tmp 4) rfl _ rfl c (K3.at_ 1 rfl).lies ?_))
  refine (wwht_any c _).mono ?_
  rw [H1.out]
  rintro e u4 ⟨rfl, d4⟩
  have K4 := K3.below d4
  have t4 := below_seq t3 d4
  cases c1
  · skip
    go_wp2_with fail
    go_ret
    exact ⟨retb (by simp), t4⟩
  · skip
    go_wp2_with (first | (refine ldWIf (by kernel_rfl) (.tmp 3) rfl _ rfl b (K4.at_ 2 rfl).lies ?_))
    refine (wend_any b _).mono ?_
    rw [H2.out]
    rintro e u5 ⟨rfl, d5⟩
    have K5 := K4.below d5
    have t5 := below_seq t4 d5
    cases c2
    · skip
      go_wp2_with (first | (refine ldWIf (by kernel_rfl) (.tmp 5) rfl _ rfl a (K5.at_ 0 rfl).lies ?_))
      refine (wend_any a _).mono ?_
      rw [H3.out]
      rintro e u6 ⟨rfl, d6⟩
      have K6 := K5.below d6
      have t6 := below_seq t5 d6
      cases c3
      · skip
        go_wp2_with fail
        go_ret
        exact ⟨retb (by simp), t6⟩
      · skip
        go_wp2_with fail
        go_ret
        exact ⟨retb (by simp), t6⟩
    · skip
      go_wp2_with fail
      go_ret
      exact ⟨retb (by simp), t5⟩


set_option maxRecDepth 100000 in
set_option maxHeartbeats 4000000 in
theorem g3_any (b c a : Cw) (w : World) :
    Calls Tryd.prog 40 #[.agg (cwA b), .agg (cwA c), .agg (cwA a)] w fun e w' => e = .returned (.bool (g3 b c a)) ∧ Below w.heap.size w w' := by
  have hval : g3 b c a = (softW c && softW b) := rfl
  rw [hval]
  clear hval
  obtain ⟨c1, h1⟩ : ∃ q, softW c = q := ⟨_, rfl⟩
  obtain ⟨c2, h2⟩ : ∃ q, softW b = q := ⟨_, rfl⟩
  rw [h1, h2]
  have H1 := Lib.hid h1
  have H2 := Lib.hid h2
  clear h1 h2
  have K0 := Kn.nil w
  have t0 := Below.refl w.heap.size w
  go_enter Tryd.func40, Tryd.ntmps40
  go_wp2_with (first | (refine bxWV rfl (.tmp 0) rfl b rfl ?_; intro v1 b1 B1; have K1 := K0.cons b1 B1; have t1 := below_seq t0 b1; clear b1 B1) | (refine bxWV rfl (.tmp 1) rfl c rfl ?_; intro v2 b2 B2; have K2 := K1.cons b2 B2; have t2 := below_seq t1 b2; clear b2 B2) | (refine bxWV rfl (.tmp 2) rfl a rfl ?_; intro v3 b3 B3; have K3 := K2.cons b3 B3; have t3 := below_seq t2 b3; clear b3 B3) | (refine ldW rfl (.tmp 4) rfl _ rfl c (K3.at_ 1 rfl).lies ?_))
  refine (wsoft_any c _).mono ?_
  rw [H1.out]
  rintro e u4 ⟨rfl, d4⟩
  have K4 := K3.below d4
  have t4 := below_seq t3 d4
  cases c1
  · skip
    go_wp2_with fail
    go_ret
    exact ⟨retb (by simp), t4⟩
  · skip
    go_wp2_with (first | (refine ldWIf (by kernel_rfl) (.tmp 3) rfl _ rfl b (K4.at_ 2 rfl).lies ?_))
    refine (wsoft_any b _).mono ?_
    rw [H2.out]
    rintro e u5 ⟨rfl, d5⟩
    have K5 := K4.below d5
    have t5 := below_seq t4 d5
    cases c2
    · skip
      go_wp2_with fail
      go_ret
      exact ⟨retb (by simp), t5⟩
    · skip
      go_wp2_with fail
      go_ret
      exact ⟨retb (by simp), t5⟩


set_option maxRecDepth 100000 in
set_option maxHeartbeats 4000000 in
theorem g4_any (b c a : Cw) (w : World) :
    Calls Tryd.prog 42 #[.agg (cwA b), .agg (cwA c), .agg (cwA a)] w fun e w' => e = .returned (.bool (g4 b c a)) ∧ Below w.heap.size w w' := by
  have hval : g4 b c a = (softW c && (hardW b || hardW a)) := rfl
  rw [hval]
  clear hval
  obtain ⟨c1, h1⟩ : ∃ q, softW c = q := ⟨_, rfl⟩
  obtain ⟨c2, h2⟩ : ∃ q, hardW b = q := ⟨_, rfl⟩
  obtain ⟨c3, h3⟩ : ∃ q, hardW a = q := ⟨_, rfl⟩
  rw [h1, h2, h3]
  have H1 := Lib.hid h1
  have H2 := Lib.hid h2
  have H3 := Lib.hid h3
  clear h1 h2 h3
  have K0 := Kn.nil w
  have t0 := Below.refl w.heap.size w
  go_enter Tryd.func42, Tryd.ntmps42
  go_wp2_with (first | (refine bxWV rfl (.tmp 0) rfl b rfl ?_; intro v1 b1 B1; have K1 := K0.cons b1 B1; have t1 := below_seq t0 b1; clear b1 B1) | (refine bxWV rfl (.tmp 1) rfl c rfl ?_; intro v2 b2 B2; have K2 := K1.cons b2 B2; have t2 := below_seq t1 b2; clear b2 B2) | (refine bxWV rfl (.tmp 2) rfl a rfl ?_; intro v3 b3 B3; have K3 := K2.cons b3 B3; have t3 := below_seq t2 b3; clear b3 B3) | (refine ldW rfl (.tmp 4) rfl _ rfl c (K3.at_ 1 rfl).lies ?_))
  refine (wsoft_any c _).mono ?_
  rw [H1.out]
  rintro e u4 ⟨rfl, d4⟩
  have K4 := K3.below d4
  have t4 := below_seq t3 d4
  cases c1
  · skip
    go_wp2_with fail
    go_ret
    exact ⟨retb (by simp), t4⟩
  · skip
    go_wp2_with (first | (refine ldWIf (by kernel_rfl) (.tmp 3) rfl _ rfl b (K4.at_ 2 rfl).lies ?_))
    refine (whard_any b _).mono ?_
    rw [H2.out]
    rintro e u5 ⟨rfl, d5⟩
    have K5 := K4.below d5
    have t5 := below_seq t4 d5
    cases c2
    · skip
      go_wp2_with (first | (refine ldWIf (by kernel_rfl) (.tmp 5) rfl _ rfl a (K5.at_ 0 rfl).lies ?_))
      refine (whard_any a _).mono ?_
      rw [H3.out]
      rintro e u6 ⟨rfl, d6⟩
      have K6 := K5.below d6
      have t6 := below_seq t5 d6
      cases c3
      · skip
        go_wp2_with fail
        go_ret
        exact ⟨retb (by simp), t6⟩
      · skip
        go_wp2_with fail
        go_ret
        exact ⟨retb (by simp), t6⟩
    · skip
      go_wp2_with fail
      go_ret
      exact ⟨retb (by simp), t5⟩


set_option maxRecDepth 100000 in
set_option maxHeartbeats 4000000 in
theorem g5_any (b c a : Cw) (w : World) (hT : Tab w) :
    Calls Tryd.prog 44 #[.agg (cwA b), .agg (cwA c), .agg (cwA a)] w fun e w' => e = .returned (.bool (g5 wideB b c a)) ∧ Below w.heap.size w w' := by
  have hval : g5 wideB b c a = (softW c && (isW b 8203 || isW a 8203 || (wideW wideB b && wideW wideB a))) := rfl
  rw [hval]
  clear hval
  obtain ⟨c1, h1⟩ : ∃ q, softW c = q := ⟨_, rfl⟩
  obtain ⟨c2, h2⟩ : ∃ q, isW b 8203 = q := ⟨_, rfl⟩
  obtain ⟨c3, h3⟩ : ∃ q, isW a 8203 = q := ⟨_, rfl⟩
  obtain ⟨c4, h4⟩ : ∃ q, wideW wideB b = q := ⟨_, rfl⟩
  obtain ⟨c5, h5⟩ : ∃ q, wideW wideB a = q := ⟨_, rfl⟩
  rw [h1, h2, h3, h4, h5]
  have H1 := Lib.hid h1
  have H2 := Lib.hid h2
  have H3 := Lib.hid h3
  have H4 := Lib.hid h4
  have H5 := Lib.hid h5
  clear h1 h2 h3 h4 h5
  have K0 := Kn.nil w
  have t0 := Below.refl w.heap.size w
  go_enter Tryd.func44, Tryd.ntmps44
  go_wp2_with (first | (refine bxWV rfl (.tmp 0) rfl b rfl ?_; intro v1 b1 B1; have K1 := K0.cons b1 B1; have t1 := below_seq t0 b1; clear b1 B1) | (refine bxWV rfl (.tmp 1) rfl c rfl ?_; intro v2 b2 B2; have K2 := K1.cons b2 B2; have t2 := below_seq t1 b2; clear b2 B2) | (refine bxWV rfl (.tmp 2) rfl a rfl ?_; intro v3 b3 B3; have K3 := K2.cons b3 B3; have t3 := below_seq t2 b3; clear b3 B3) | (refine ldW rfl (.tmp 4) rfl _ rfl c (K3.at_ 1 rfl).lies ?_))
  refine (wsoft_any c _).mono ?_
  rw [H1.out]
  rintro e u4 ⟨rfl, d4⟩
  have K4 := K3.below d4
  have t4 := below_seq t3 d4
  cases c1
  · skip
    go_wp2_with fail
    go_ret
    exact ⟨retb (by simp), t4⟩
  · skip
    go_wp2_with (first | (refine ldWIf (by kernel_rfl) (.tmp 3) rfl _ rfl b (K4.at_ 2 rfl).lies ?_))
    refine (wis_any b 8203 _).mono ?_
    rw [H2.out]
    rintro e u5 ⟨rfl, d5⟩
    have K5 := K4.below d5
    have t5 := below_seq t4 d5
    cases c2
    · skip
      go_wp2_with (first | (refine ldWIf (by kernel_rfl) (.tmp 5) rfl _ rfl a (K5.at_ 0 rfl).lies ?_))
      refine (wis_any a 8203 _).mono ?_
      rw [H3.out]
      rintro e u6 ⟨rfl, d6⟩
      have K6 := K5.below d6
      have t6 := below_seq t5 d6
      cases c3
      · skip
        go_wp2_with (first | (refine ldWIf (by kernel_rfl) (.tmp 3) rfl _ rfl b (K6.at_ 2 rfl).lies ?_))
        refine (wwide_any b _ (hT.below t6)).mono ?_
        rw [H4.out]
        rintro e u7 ⟨rfl, d7⟩
        have K7 := K6.below d7
        have t7 := below_seq t6 d7
        cases c4
        · skip
          go_wp2_with fail
          go_ret
          exact ⟨retb (by simp), t7⟩
        · skip
          go_wp2_with (first | (refine ldWIf (by kernel_rfl) (.tmp 5) rfl _ rfl a (K7.at_ 0 rfl).lies ?_))
          refine (wwide_any a _ (hT.below t7)).mono ?_
          rw [H5.out]
          rintro e u8 ⟨rfl, d8⟩
          have K8 := K7.below d8
          have t8 := below_seq t7 d8
          cases c5
          · skip
            go_wp2_with fail
            go_ret
            exact ⟨retb (by simp), t8⟩
          · skip
            go_wp2_with fail
            go_ret
            exact ⟨retb (by simp), t8⟩
      · skip
        go_wp2_with fail
        go_ret
        exact ⟨retb (by simp), t6⟩
    · skip
      go_wp2_with fail
      go_ret
      exact ⟨retb (by simp), t5⟩


set_option maxRecDepth 100000 in
set_option maxHeartbeats 4000000 in
theorem g8_any (b c a : Cw) (w : World) :
    Calls Tryd.prog 48 #[.agg (cwA b), .agg (cwA c), .agg (cwA a)] w fun e w' => e = .returned (.bool (g8 b c a)) ∧ Below w.heap.size w w' := by
  have hval : g8 b c a = (colW c 32 && colW b 32) := rfl
  rw [hval]
  clear hval
  obtain ⟨c1, h1⟩ : ∃ q, colW c 32 = q := ⟨_, rfl⟩
  obtain ⟨c2, h2⟩ : ∃ q, colW b 32 = q := ⟨_, rfl⟩
  rw [h1, h2]
  have H1 := Lib.hid h1
  have H2 := Lib.hid h2
  clear h1 h2
  have K0 := Kn.nil w
  have t0 := Below.refl w.heap.size w
  go_enter Tryd.func48, Tryd.ntmps48
  go_wp2_with (first | (refine bxWV rfl (.tmp 0) rfl b rfl ?_; intro v1 b1 B1; have K1 := K0.cons b1 B1; have t1 := below_seq t0 b1; clear b1 B1) | (refine bxWV rfl (.tmp 1) rfl c rfl ?_; intro v2 b2 B2; have K2 := K1.cons b2 B2; have t2 := below_seq t1 b2; clear b2 B2) | (refine bxWV rfl (.tmp 2) rfl a rfl ?_; intro v3 b3 B3; have K3 := K2.cons b3 B3; have t3 := below_seq t2 b3; clear b3 B3) | (refine ldW rfl (.tmp 4) rfl _ rfl c (K3.at_ 1 rfl).lies ?_))
  refine (wcol_any c 32 _).mono ?_
  rw [H1.out]
  rintro e u4 ⟨rfl, d4⟩
  have K4 := K3.below d4
  have t4 := below_seq t3 d4
  cases c1
  · skip
    go_wp2_with fail
    go_ret
    exact ⟨retb (by simp), t4⟩
  · skip
    go_wp2_with (first | (refine ldWIf (by kernel_rfl) (.tmp 3) rfl _ rfl b (K4.at_ 2 rfl).lies ?_))
    refine (wcol_any b 32 _).mono ?_
    rw [H2.out]
    rintro e u5 ⟨rfl, d5⟩
    have K5 := K4.below d5
    have t5 := below_seq t4 d5
    cases c2
    · skip
      go_wp2_with fail
      go_ret
      exact ⟨retb (by simp), t5⟩
    · skip
      go_wp2_with fail
      go_ret
      exact ⟨retb (by simp), t5⟩
end Go.Proofs.YtejcfhfmdijimaaDoor
