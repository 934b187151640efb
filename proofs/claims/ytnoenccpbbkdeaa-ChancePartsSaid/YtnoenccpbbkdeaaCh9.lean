/- Contracts of the reference's functions of one character (mark, Letter, Class), of its Same, and of layer 9's Breaks by the reference. Conditions of the last two: the slices read as the lists. -/
import Derived.Test.YtnoenccpbbkdeaaCh3
import Derived.Test.YtnoenccpbbkdeaaCRef
import Derived.Test.YtnoenccpbbkdeaaPr20
namespace Go.Proofs.Ytnoenccpbbkdeaa
open Go.ChangeShapes Go.WideShapes Go.ChangeAt Go.RowKit
open Wh (Cr)
open Ch

set_option maxRecDepth 100000 in
set_option maxHeartbeats 4000000 in
theorem rmark_any (c : Cr) (w : World) :
    Calls Try.prog 45 #[.agg (chA c)] w fun e w' => e = .returned (.bool (markC c)) ∧ Below w.heap.size w w' := by
  have C : Hid (∀ W, Calls Try.prog 28 #[.int .i32 c.r] W fun e w' => e = .returned (.int .u8 (clsOf c.r)) ∧ Below W.heap.size W w') := Lib.hid fun W => rof_any c.r W
  obtain ⟨r, hr⟩ : ∃ r, c.r = r := ⟨_, rfl⟩
  obtain ⟨kd, hkd⟩ : ∃ r, c.kind = r := ⟨_, rfl⟩
  obtain ⟨k, hk⟩ : ∃ k, clsOf c.r = k := ⟨_, rfl⟩
  rw [hk, hr] at C
  have HR := Lib.hid hr
  have HKD := Lib.hid hkd
  have HK := Lib.hid hk
  go_enter Try.func45, Try.ntmps45
  go_wp2_with (refine bxCV rfl (.tmp 0) rfl c rfl ?_; intro w1 b1 B1; refine Mk.out ?_)
  constructor
  have c0 : w1.cell? ⟨w.heap.size, 0, none⟩ = some (.int .i32 c.r) := B1.cell 0
  have c4 : w1.cell? ⟨w.heap.size, 4, none⟩ = some (.int .u8 c.kind) := B1.cell 4
  rw [hr] at c0
  rw [hkd] at c4
  clear hr hkd hk
  by_cases h0 : kd = 0
  · subst h0
    go_wp2_with fail
    refine (C.out _).mono ?_
    rintro e w2 ⟨rfl, b2⟩
    go_wp2_with fail
    go_ret
    exact ⟨retb (by simp [markC, HKD.out, HK.out]), below_seq b1 b2⟩
  · go_wp2_with fail
    go_ret
    exact ⟨retb (by simp [markC, HKD.out, h0]), b1⟩

set_option maxRecDepth 100000 in
set_option maxHeartbeats 4000000 in
theorem rletter_any (c : Cr) (w : World) :
    Calls Try.prog 15 #[.agg (chA c)] w fun e w' => e = .returned (.bool (lett c)) ∧ Below w.heap.size w w' := by
  have C : Hid (∀ W, Calls Try.prog 28 #[.int .i32 c.r] W fun e w' => e = .returned (.int .u8 (clsOf c.r)) ∧ Below W.heap.size W w') := Lib.hid fun W => rof_any c.r W
  obtain ⟨r, hr⟩ : ∃ r, c.r = r := ⟨_, rfl⟩
  obtain ⟨kd, hkd⟩ : ∃ r, c.kind = r := ⟨_, rfl⟩
  obtain ⟨k, hk⟩ : ∃ k, clsOf c.r = k := ⟨_, rfl⟩
  rw [hk, hr] at C
  have HR := Lib.hid hr
  have HKD := Lib.hid hkd
  have HK := Lib.hid hk
  go_enter Try.func15, Try.ntmps15
  go_wp2_with (refine bxCV rfl (.tmp 0) rfl c rfl ?_; intro w1 b1 B1; refine Mk.out ?_)
  constructor
  have c0 : w1.cell? ⟨w.heap.size, 0, none⟩ = some (.int .i32 c.r) := B1.cell 0
  have c4 : w1.cell? ⟨w.heap.size, 4, none⟩ = some (.int .u8 c.kind) := B1.cell 4
  rw [hr] at c0
  rw [hkd] at c4
  clear hr hkd hk
  by_cases h0 : kd = 0
  · subst h0
    go_wp2_with fail
    refine (C.out _).mono ?_
    rintro e w2 ⟨rfl, b2⟩
    have b12 := below_seq b1 b2
    by_cases q0 : k = 0
    · subst q0
      go_wp2_with fail
      go_ret
      exact ⟨retb (by simp [lett, HKD.out, HK.out]), b12⟩
    by_cases q22 : k = 22
    · subst q22
      go_wp2_with fail
      go_ret
      exact ⟨retb (by simp [lett, HKD.out, HK.out]), b12⟩
    by_cases q25 : k = 25
    · subst q25
      go_wp2_with fail
      go_ret
      exact ⟨retb (by simp [lett, HKD.out, HK.out]), b12⟩
    by_cases q20 : k = 20
    · subst q20
      go_wp2_with fail
      go_ret
      exact ⟨retb (by simp [lett, HKD.out, HK.out]), b12⟩
    go_wp2_with fail
    go_ret
    exact ⟨retb (by simp [lett, HKD.out, HK.out]), b12⟩
  · go_wp2_with fail
    go_ret
    exact ⟨retb (by simp [lett, HKD.out, h0]), b1⟩

set_option maxRecDepth 100000 in
set_option maxHeartbeats 4000000 in
theorem rclass_any (c : Cr) (s : Sty) (w : World) :
    Calls Try.prog 13 #[.agg (chA c), .agg s.cells] w fun e w' => e = .returned (.int .u8 (clsC c s)) ∧ Below w.heap.size w w' := by
  have C : Hid (∀ W, Calls Try.prog 28 #[.int .i32 c.r] W fun e w' => e = .returned (.int .u8 (clsOf c.r)) ∧ Below W.heap.size W w') := Lib.hid fun W => rof_any c.r W
  obtain ⟨r, hr⟩ : ∃ r, c.r = r := ⟨_, rfl⟩
  obtain ⟨kd, hkd⟩ : ∃ r, c.kind = r := ⟨_, rfl⟩
  obtain ⟨k, hk⟩ : ∃ k, clsOf c.r = k := ⟨_, rfl⟩
  rw [hk, hr] at C
  have HR := Lib.hid hr
  have HKD := Lib.hid hkd
  have HK := Lib.hid hk
  obtain ⟨x1, hx1⟩ : ∃ x, s.a1 = x := ⟨_, rfl⟩
  obtain ⟨x3, hx3⟩ : ∃ x, s.a3 = x := ⟨_, rfl⟩
  have HX := Lib.hid hx3
  have HX1 := Lib.hid hx1
  have HV : Hid (kd = 0 → clsC c s = clsT k s) := Lib.hid fun h => by
    rw [← hk]
    unfold clsC
    rw [if_neg (by omega), if_neg (by omega), if_neg (by simp [hkd, h])]
  go_enter Try.func13, Try.ntmps13
  go_wp2_with (first
    | (refine bxCV rfl (.tmp 0) rfl c rfl ?_; intro w0 b0 B0)
    | (refine bxSV rfl (.tmp 1) rfl s rfl ?_; intro w1 b1 B1; refine Mk.out ?_))
  constructor
  have B2 := B0.keep (S := fun _ => False) (Mod.of_below b1) id
  have c0 : w1.cell? ⟨w.heap.size, 0, none⟩ = some (.int .i32 c.r) := B2.cell 0
  have c4 : w1.cell? ⟨w.heap.size, 4, none⟩ = some (.int .u8 c.kind) := B2.cell 4
  have d1 : w1.cell? ⟨w0.heap.size, 1, none⟩ = some (.int .u8 s.a1) := B1.cell 1
  have d3 : w1.cell? ⟨w0.heap.size, 3, none⟩ = some (.int .u8 s.a3) := B1.cell 3
  rw [hr] at c0
  rw [hkd] at c4
  rw [hx1] at d1
  rw [hx3] at d3
  have b01 := below_seq b0 b1
  have B1' := Lib.hid B1
  clear hr hkd hk hx1 hx3 B0 B1 B2 b0 b1
  by_cases h1 : 1 ≤ kd
  · by_cases h4 : kd ≤ 4
    · go_wp2_with fail
      go_ret
      exact ⟨ret1 (by unfold clsC; rw [HKD.out, if_pos ⟨h1, h4⟩]), b01⟩
    · by_cases h6 : kd = 6
      · subst h6
        go_wp2_with fail
        go_ret
        exact ⟨ret1 (by unfold clsC; rw [HKD.out, if_neg (by omega), if_pos rfl]), b01⟩
      · have h0 : ¬ kd = 0 := by omega
        go_wp2_with fail
        go_ret
        exact ⟨ret1 (by unfold clsC; rw [HKD.out, if_neg (by omega), if_neg h6, if_pos h0]), b01⟩
  · have h6 : ¬ kd = 6 := by omega
    by_cases h0 : kd = 0
    rotate_left
    · go_wp2_with fail
      go_ret
      exact ⟨ret1 (by unfold clsC; rw [HKD.out, if_neg (by omega), if_neg h6, if_pos h0]), b01⟩
    · subst h0
      have hv := HV.out rfl
      have HV2 := Lib.hid hv
      clear hv h1 h6 HV
      go_wp2_with fail
      refine (C.out _).mono ?_
      rintro e w2 ⟨rfl, b2⟩
      have B3 := B1'.out.keep (S := fun _ => False) (Mod.of_below b2) id
      have d1 : w2.cell? ⟨w0.heap.size, 1, none⟩ = some (.int .u8 s.a1) := B3.cell 1
      have d3 : w2.cell? ⟨w0.heap.size, 3, none⟩ = some (.int .u8 s.a3) := B3.cell 3
      rw [HX1.out] at d1
      rw [HX.out] at d3
      have b02 := below_seq b01 b2
      clear c0 c4 B3 B1' b2 b01
      by_cases k20 : k = 20
      · subst k20
        by_cases e3 : x3 = 2
        · subst e3
          by_cases e1 : x1 = 1
          · subst e1
            go_wp2_with fail
            go_ret
            exact ⟨ret1 (by rw [HV2.out, clsT_is]; simp [HX.out]), b02⟩
          · go_wp2_with fail
            go_ret
            exact ⟨ret1 (by rw [HV2.out, clsT_is]; simp [HX.out]), b02⟩
        · by_cases e1 : x1 = 1
          · subst e1
            go_wp2_with fail
            go_ret
            exact ⟨ret1 (by rw [HV2.out, clsT_is]; simp [HX.out, e3]), b02⟩
          · go_wp2_with fail
            go_ret
            exact ⟨ret1 (by rw [HV2.out, clsT_is]; simp [HX.out, e3]), b02⟩
      by_cases k19 : k = 19
      · subst k19
        by_cases e3 : x3 = 1
        · subst e3
          by_cases e1 : x1 = 1
          · subst e1
            go_wp2_with fail
            go_ret
            exact ⟨ret1 (by rw [HV2.out, clsT_is]; simp [HX.out]), b02⟩
          · go_wp2_with fail
            go_ret
            exact ⟨ret1 (by rw [HV2.out, clsT_is]; simp [HX.out]), b02⟩
        · by_cases e1 : x1 = 1
          · subst e1
            go_wp2_with fail
            go_ret
            exact ⟨ret1 (by rw [HV2.out, clsT_is]; simp [HX.out, e3]), b02⟩
          · go_wp2_with fail
            go_ret
            exact ⟨ret1 (by rw [HV2.out, clsT_is]; simp [HX.out, e3]), b02⟩
      by_cases e1 : x1 = 1
      · subst e1
        by_cases k0 : k = 0
        · subst k0
          go_wp2_with fail
          go_ret
          exact ⟨ret1 (by rw [HV2.out, clsT_is]; simp [HX1.out]), b02⟩
        by_cases k22 : k = 22
        · subst k22
          go_wp2_with fail
          go_ret
          exact ⟨ret1 (by rw [HV2.out, clsT_is]; simp [HX1.out]), b02⟩
        go_wp2_with fail
        · go_ret
          rename_i hh
          simp [k0, k22] at hh
        · go_ret
          exact ⟨ret1 (by rw [HV2.out, clsT_is]; simp [k20, k19, k0, k22]), b02⟩
      · go_wp2_with fail
        go_ret
        exact ⟨ret1 (by rw [HV2.out, clsT_is]; simp [k20, k19, HX1.out, e1]), b02⟩

set_option maxRecDepth 100000 in
set_option maxHeartbeats 4000000 in
theorem rsame10 (l : List Int) (v1 v2 : Value) (w : World) (h1 : R8 w v1 l) (h2 : R8 w v2 l) (hn : l.length ≤ 1048576) :
    Calls Try.prog 16 #[v1, v2] w fun e w' => e = .returned (.bool true) ∧ Below w.heap.size w w' := by
  have H1 := Lib.hid h1
  have H2 := Lib.hid h2
  obtain ⟨A1, c1, rfl⟩ := h1.form
  obtain ⟨A2, c2, rfl⟩ := h2.form
  rw [r8_len] at H1 H2 ⊢
  obtain ⟨n, hl⟩ : ∃ n, l.length = n := ⟨_, rfl⟩
  have HN := Lib.hid hl
  rw [hl] at hn H1 H2 ⊢
  clear hl h1 h2
  go_enter Try.func16, Try.ntmps16
  go_wp2_with fail
  go_loopg [5] n (fun kx i wr => ∃ (k m : Nat), i = .int .i64 k ∧ k ≤ n ∧ kx = n - k ∧ wr = w.drewN m)
  case atStart => exact ⟨0, 0, rfl, by omega, by omega, rfl⟩
  case round =>
    obtain ⟨k, m, rfl, hk, rfl, rfl⟩ := hrel
    by_cases hlt : k < n
    · obtain ⟨x, hx⟩ : ∃ x, l[k]? = some x := ⟨_, List.getElem?_eq_getElem (by rw [HN.out]; exact hlt)⟩
      obtain ⟨a, cap, hv, _, _, hcell⟩ := H1.out.at_ (by rw [r8_len, HN.out]; omega)
      obtain rfl : A1 = some a := by injection hv
      obtain ⟨b, cap2, hv2, _, _, hcell2⟩ := H2.out.at_ (by rw [r8_len, HN.out]; omega)
      obtain rfl : A2 = some b := by injection hv2
      have q1 := hcell k _ (r8_at hx)
      have q2 := hcell2 k _ (r8_at hx)
      have hkz : (k : Int) < n := by omega
      clear hv hv2 hcell hcell2 hx
      go_wp2_with fail
      go_quiet (fail)
      go_wp2_with fail
      go_roundg (n - (k + 1))
      case measure => omega
      case rel => exact ⟨k + 1, _, by go_num, by omega, rfl, rfl⟩
    · have hkn : k = n := by omega
      subst hkn
      go_wp2_with fail
      go_ret
      exact ⟨rfl, below_drewN (Below.refl _ _) _⟩


theorem rsame10_is (l m : List Int) (v1 v2 : Value) (w : World) (h1 : R8 w v1 l) (h2 : R8 w v2 m) (hm : l = m) (hn : l.length ≤ 1048576) :
    Calls Try.prog 16 #[v1, v2] w fun e w' => e = .returned (.bool true) ∧ Below w.heap.size w w' := by
  subst hm
  exact rsame10 l v1 v2 w h1 h2 hn

set_option maxRecDepth 100000 in
set_option maxHeartbeats 4000000 in
theorem rbreaks9_any (l : List Int) (v : Value) (w : World) (hR : R8 w v l) (hcap : Cap v) (hlen : l.length ≤ 1048576) :
    Calls Try.prog 54 #[v] w fun e w' => ∃ u, e = .returned u ∧ RB w' u (breaksL l) ∧ Below w.heap.size w w' := by
  have C := Lib.hid (rall_any l v w hR hcap hlen)
  clear hR
  go_enter Try.func54, Try.ntmps54
  go_wp2_with fail
  refine C.out.mono ?_
  rintro e w1 ⟨u1, u2, u3, rfl, _, r2, _, b1⟩
  go_wp2_with fail
  go_ret
  exact ⟨_, rfl, r2, b1⟩
end Go.Proofs.Ytnoenccpbbkdeaa
