/- Contract of the document's Same for rows of roles. Conditions: the rows lie where the slices say, at most 1048577 numbers. -/
import Derived.Test.YtddihpiheopleaaRwI
import Derived.Test.YtddihpiheopleaaClB
import Derived.BigQuiet
namespace Go.Proofs.Ytddihpiheopleaa.Tm
open Go.ChangeShapes Go.WideShapes Go.ChangeAt Go.RowKit

set_option maxRecDepth 100000 in
set_option maxHeartbeats 2000000 in
theorem sameB_any (l m : List Int) (v1 v2 : Value) (w : World) (h1 : RowI .u8 w v1 l) (h2 : RowI .u8 w v2 m) (hn : l.length ≤ 1048577) :
    Calls Try.prog 12 #[v1, v2] w fun e w' => e = .returned (.bool (decide (l = m))) ∧ Below w.heap.size w w' := by
  have H1 := Lib.hid h1
  have H2 := Lib.hid h2
  obtain ⟨A, c, rfl⟩ := h1.form
  obtain ⟨B, c2, rfl⟩ := h2.form
  by_cases hlm : l.length = m.length
  · obtain ⟨b0, hb0⟩ : ∃ b, decide (l = m) = b := ⟨_, rfl⟩
    have HBB := Lib.hid hb0
    rw [hb0]
    obtain ⟨n, hl⟩ : ∃ n, l.length = n := ⟨_, rfl⟩
    have HL := Lib.hid hl
    have HM : Hid (m.length = n) := Lib.hid (hlm.symm.trans hl)
    rw [hl] at hn H1 hlm ⊢
    rw [← hlm] at H2 ⊢
    clear h1 h2 hl hlm hb0
    go_enter Try.func12, Try.ntmps12
    go_wp2_with fail
    go_loopg [5] n (fun kx s5 wr => ∃ k : Nat, s5 = .int .i64 k ∧ k ≤ n ∧ kx = n - k ∧ Below w.heap.size w wr ∧ Hid (∀ i, i < k → l[i]? = m[i]?))
    case atStart => exact ⟨0, rfl, by omega, rfl, Below.refl _ _, Lib.hid fun i hi => by omega⟩
    case round =>
      obtain ⟨k, rfl, hk, rfl, bel, HI⟩ := hrel
      by_cases hlt : k < n
      · have hz : (k : Int) < n := by omega
        obtain ⟨x, hx⟩ : ∃ x, l[k]? = some x := ⟨_, List.getElem?_eq_getElem (by rw [HL.out]; exact hlt)⟩
        obtain ⟨y, hy⟩ : ∃ y, m[k]? = some y := ⟨_, List.getElem?_eq_getElem (by rw [HM.out]; exact hlt)⟩
        obtain ⟨a1, cap1, hv, hc1⟩ := (H1.out.below bel).get hx
        rw [HL.out] at hv
        injection hv with hv1 hv2 hv3
        subst hv1 hv3
        obtain ⟨a2, cap2, hv, hc2⟩ := (H2.out.below bel).get hy
        rw [HM.out] at hv
        injection hv with hv1 hv4 hv3
        subst hv1 hv3
        have HX := Lib.hid hx
        have HY := Lib.hid hy
        clear hv2 hv4 hx hy
        by_cases hxy : x = y
        · have hd : (x != y) = false := by simp [hxy]
          have HXY := Lib.hid hxy
          clear hxy
          go_wp2_with fail
          go_quiet (fail)
          go_wp2_with fail
          go_roundg (n - (k + 1))
          case measure => omega
          case rel => exact ⟨k + 1, by go_num, by omega, rfl, below_drewN bel _, Lib.hid fun i hi => (by
            rcases Nat.lt_or_ge i k with h | h
            · exact HI.out i h
            · obtain rfl : i = k := by omega
              rw [HX.out, HY.out, HXY.out])⟩
        · have hd : (x != y) = true := by simp [hxy]
          have HXY := Lib.hid hxy
          clear hxy
          go_wp2_with fail
          go_quiet (fail)
          go_wp2_with fail
          go_ret
          refine ⟨retb ?_, below_drewN bel _⟩
          rw [← HBB.out]
          refine (decide_eq_false fun e => HXY.out ?_).symm
          have h1 := HX.out
          have h2 := HY.out
          rw [e, h2] at h1
          injection h1 with h1
          exact h1.symm
      · obtain rfl : k = n := by omega
        go_wp2_with fail
        go_ret
        refine ⟨retb ?_, bel⟩
        rw [← HBB.out]
        refine (decide_eq_true (List.ext_getElem? fun i => ?_)).symm
        rcases Nat.lt_or_ge i k with h | h
        · exact HI.out i h
        · rw [List.getElem?_eq_none (by rw [HL.out]; exact h), List.getElem?_eq_none (by rw [HM.out]; exact h)]
  · have hd : decide (l = m) = false := decide_eq_false fun e => hlm (by rw [e])
    rw [hd]
    obtain ⟨n, hl⟩ : ∃ n, l.length = n := ⟨_, rfl⟩
    obtain ⟨n2, hl2⟩ : ∃ n, m.length = n := ⟨_, rfl⟩
    rw [hl, hl2] at hlm ⊢
    have hz : ¬ (n : Int) = n2 := by omega
    clear H1 H2 h1 h2 hd hl hl2 hn
    go_enter Try.func12, Try.ntmps12
    go_wp2_with fail
    go_ret
    exact ⟨rfl, Below.refl _ _⟩
end Go.Proofs.Ytddihpiheopleaa.Tm
