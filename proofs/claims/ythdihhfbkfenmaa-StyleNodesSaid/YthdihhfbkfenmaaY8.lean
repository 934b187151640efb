/- Contracts of the document's Check and First for layer 6. No condition. -/
import Derived.Test.YthdihhfbkfenmaaY2
namespace Go.Proofs.Ythdihhfbkfenmaa
open Go.ChangeShapes Go.WideShapes Go.ChangeAt Go.RowKit

theorem chk_of (s : Sty) (h : s.a0 ≤ 5 ∧ s.a1 ≤ 2 ∧ s.a2 ≤ 1 ∧ s.a3 ≤ 3 ∧ 0 ≤ s.a4 ∧ s.a4 ≤ 64 ∧ 0 ≤ s.a5 ∧ s.a5 ≤ 63 ∧ 0 ≤ s.a6 ∧ s.a6 ≤ 1073741824 ∧ s.a7 ≤ 2 ∧ 0 ≤ s.a8 ∧ s.a8 ≤ 1073741824) : chk s = 0 := by
  unfold chk vld vld1
  simp [h]
theorem chk_bad (s : Sty) (h : ¬ (s.a0 ≤ 5 ∧ s.a1 ≤ 2 ∧ s.a2 ≤ 1 ∧ s.a3 ≤ 3 ∧ 0 ≤ s.a4 ∧ s.a4 ≤ 64 ∧ 0 ≤ s.a5 ∧ s.a5 ≤ 63 ∧ 0 ≤ s.a6 ∧ s.a6 ≤ 1073741824 ∧ s.a7 ≤ 2 ∧ 0 ≤ s.a8 ∧ s.a8 ≤ 1073741824)) : chk s = 60 := by
  unfold chk
  have e : vld s = false := by
    apply Bool.eq_false_iff.2
    intro h2
    apply h
    unfold vld vld1 at h2
    simp at h2
    omega
  rw [e]
  rfl

set_option maxRecDepth 100000 in
set_option maxHeartbeats 8000000 in
theorem rcheck_any (s : Sty) (w : World) :
    Calls Try.prog 13 #[.agg s.cells] w fun e w' => e = .returned (.int .i64 (chk s)) ∧ Below w.heap.size w w' := by
  have H0 := Lib.hid (chk_of s)
  have H1 := Lib.hid (chk_bad s)
  obtain ⟨c, hc⟩ : ∃ c, chk s = c := ⟨_, rfl⟩
  rw [hc] at H0 H1 ⊢
  clear hc
  obtain ⟨a0, a1, a2, a3, a4, a5, a6, a7, a8⟩ := s
  unfold Sty.cells
  simp only at H0 H1 ⊢
  by_cases h0 : 5 < a0
  · have e := H1.out (by omega)
    subst e
    clear H0 H1
    go_enter Try.func13, Try.ntmps13
    go_wp2
    go_ret
    exact ⟨rfl, below_alloc _ _⟩
  have g0 : a0 ≤ 5 := by omega
  clear h0
  by_cases h1 : 2 < a1
  · have e := H1.out (by omega)
    subst e
    clear H0 H1
    go_enter Try.func13, Try.ntmps13
    go_wp2
    go_ret
    exact ⟨rfl, below_alloc _ _⟩
  have g1 : a1 ≤ 2 := by omega
  clear h1
  by_cases h2 : 1 < a2
  · have e := H1.out (by omega)
    subst e
    clear H0 H1
    go_enter Try.func13, Try.ntmps13
    go_wp2
    go_ret
    exact ⟨rfl, below_alloc _ _⟩
  have g2 : a2 ≤ 1 := by omega
  clear h2
  by_cases h3 : 3 < a3
  · have e := H1.out (by omega)
    subst e
    clear H0 H1
    go_enter Try.func13, Try.ntmps13
    go_wp2
    go_ret
    exact ⟨rfl, below_alloc _ _⟩
  have g3 : a3 ≤ 3 := by omega
  clear h3
  by_cases h4 : 2 < a7
  · have e := H1.out (by omega)
    subst e
    clear H0 H1
    go_enter Try.func13, Try.ntmps13
    go_wp2
    go_ret
    exact ⟨rfl, below_alloc _ _⟩
  have g4 : a7 ≤ 2 := by omega
  clear h4
  by_cases h5 : a4 < 0
  · have e := H1.out (by omega)
    subst e
    clear H0 H1
    go_enter Try.func13, Try.ntmps13
    go_wp2
    go_ret
    exact ⟨rfl, below_alloc _ _⟩
  have g5 : 0 ≤ a4 := by omega
  clear h5
  by_cases h6 : 64 < a4
  · have e := H1.out (by omega)
    subst e
    clear H0 H1
    go_enter Try.func13, Try.ntmps13
    go_wp2
    go_ret
    exact ⟨rfl, below_alloc _ _⟩
  have g6 : a4 ≤ 64 := by omega
  clear h6
  by_cases h7 : a5 < 0
  · have e := H1.out (by omega)
    subst e
    clear H0 H1
    go_enter Try.func13, Try.ntmps13
    go_wp2
    go_ret
    exact ⟨rfl, below_alloc _ _⟩
  have g7 : 0 ≤ a5 := by omega
  clear h7
  by_cases h8 : 63 < a5
  · have e := H1.out (by omega)
    subst e
    clear H0 H1
    go_enter Try.func13, Try.ntmps13
    go_wp2
    go_ret
    exact ⟨rfl, below_alloc _ _⟩
  have g8 : a5 ≤ 63 := by omega
  clear h8
  by_cases h9 : a6 < 0
  · have e := H1.out (by omega)
    subst e
    clear H0 H1
    go_enter Try.func13, Try.ntmps13
    go_wp2
    go_ret
    exact ⟨rfl, below_alloc _ _⟩
  have g9 : 0 ≤ a6 := by omega
  clear h9
  by_cases h10 : 1073741824 < a6
  · have e := H1.out (by omega)
    subst e
    clear H0 H1
    go_enter Try.func13, Try.ntmps13
    go_wp2
    go_ret
    exact ⟨rfl, below_alloc _ _⟩
  have g10 : a6 ≤ 1073741824 := by omega
  clear h10
  by_cases h11 : a8 < 0
  · have e := H1.out (by omega)
    subst e
    clear H0 H1
    go_enter Try.func13, Try.ntmps13
    go_wp2
    go_ret
    exact ⟨rfl, below_alloc _ _⟩
  have g11 : 0 ≤ a8 := by omega
  clear h11
  by_cases h12 : 1073741824 < a8
  · have e := H1.out (by omega)
    subst e
    clear H0 H1
    go_enter Try.func13, Try.ntmps13
    go_wp2
    go_ret
    exact ⟨rfl, below_alloc _ _⟩
  have g12 : a8 ≤ 1073741824 := by omega
  clear h12
  have e := H0.out (by omega)
  subst e
  clear H0 H1
  go_enter Try.func13, Try.ntmps13
  go_wp2
  go_ret
  exact ⟨rfl, below_alloc _ _⟩

theorem rfirst_any (w : World) :
    Calls Try.prog 17 #[] w fun e w' => e = .returned (.agg Sty.first.cells) ∧ Below w.heap.size w w' := by
  go_enter Try.func17, Try.ntmps17
  go_wp2_with (first | (refine alSV rfl rfl ?_; intro w1 b1 B1) | (refine stS rfl (.tmp 0) (.tmp 1) rfl rfl _ rfl .first rfl .zero B1 ?_; intro w2 m2 B2))
  exact bodyPost_ret (v := .agg Sty.first.cells) (res_row rfl _ _ w.heap.size 23 _ _ rfl B2 uS rfl iS) rfl ⟨rfl, b1.trans (m2.below b1.size (fun k hk => by omega))⟩
end Go.Proofs.Ythdihhfbkfenmaa
