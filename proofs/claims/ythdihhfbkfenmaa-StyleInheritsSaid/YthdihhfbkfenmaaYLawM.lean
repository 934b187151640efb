/- Plain facts for the laws: merged declarations, in any order, and applied. No walk. -/
import Derived.Test.YthdihhfbkfenmaaYMath
namespace Go.Proofs.Ythdihhfbkfenmaa

theorem vld_and (s : Sty) : vld s = true ↔ ∀ i, i < 8 → vld1 i s = true := by
  constructor
  · intro h
    unfold vld at h
    simp only [Bool.and_eq_true] at h
    obtain ⟨h0, h1, h2, h3, h4, h5, h6, h7⟩ := h
    exact eight (p := fun i => vld1 i s = true) h0 h1 h2 h3 h4 h5 h6 h7
  · exact vld_yes s
theorem vld1_over (i : Nat) (hi : i < 8) (s : Sty) (d : Dcl) : vld1 i (over s d) = if d.n.testBit i then vld1 i d.s else vld1 i s := by
  refine eight (p := fun i => vld1 i (over s d) = if d.n.testBit i then vld1 i d.s else vld1 i s) ?_ ?_ ?_ ?_ ?_ ?_ ?_ ?_ i hi
  · cases h : d.n.testBit 0 <;> simp [vld1, over, ovk, h]
  · cases h : d.n.testBit 1 <;> simp [vld1, over, ovk, h]
  · cases h : d.n.testBit 2 <;> simp [vld1, over, ovk, h]
  · cases h : d.n.testBit 3 <;> simp [vld1, over, ovk, h]
  · cases h : d.n.testBit 4 <;> simp [vld1, over, ovk, h]
  · cases h : d.n.testBit 5 <;> simp [vld1, over, ovk, h]
  · cases h : d.n.testBit 6 <;> simp [vld1, over, ovk, h]
  · cases h : d.n.testBit 7 <;> simp [vld1, over, ovk, h]
theorem vld_over (s : Sty) (d : Dcl) (hs : vld s = true) (hd : vld d.s = true) : vld (over s d) = true := by
  rw [vld_and] at *
  intro i hi
  rw [vld1_over i hi]
  split
  · exact hd i hi
  · exact hs i hi
theorem vldD_iff (d : Dcl) : vldD d = true ↔ d.n ≤ 255 ∧ over .zero d = d.s ∧ vld d.s = true := by
  unfold vldD
  simp
/-- applied one after the other, or merged -/
theorem over_mrg (x : Sty) (b c : Dcl) : over x (mrg b c) = over (over x b) c := by
  simp only [over, mrg, ovk, Nat.testBit_or]
  congr 1
  · cases b.n.testBit 0 <;> cases c.n.testBit 0 <;> rfl
  · cases b.n.testBit 1 <;> cases c.n.testBit 1 <;> rfl
  · cases b.n.testBit 2 <;> cases c.n.testBit 2 <;> rfl
  · cases b.n.testBit 3 <;> cases c.n.testBit 3 <;> rfl
  · cases b.n.testBit 4 <;> cases c.n.testBit 4 <;> rfl
  · cases b.n.testBit 5 <;> cases c.n.testBit 5 <;> rfl
  · cases b.n.testBit 6 <;> cases c.n.testBit 6 <;> rfl
  · cases b.n.testBit 7 <;> cases c.n.testBit 7 <;> rfl
  · cases b.n.testBit 7 <;> cases c.n.testBit 7 <;> rfl
theorem mrg_assoc (a b c : Dcl) : mrg (mrg a b) c = mrg a (mrg b c) := by
  have h := over_mrg a.s b c
  show Dcl.mk (a.n ||| b.n ||| c.n) (over (over a.s b) c) = Dcl.mk (a.n ||| (b.n ||| c.n)) (over a.s (mrg b c))
  rw [h, Nat.or_assoc]
theorem over_zero (s : Sty) : over s .zero = s := by simp [over, ovk, Dcl.zero]
theorem mrg_zero (a : Dcl) : mrg a .zero = a := by
  show Dcl.mk (a.n ||| 0) (over a.s .zero) = a
  rw [over_zero, Nat.or_zero]
theorem vldD_zero : vldD .zero = true := by decide +kernel
theorem vldD_mrg (a b : Dcl) (ha : vldD a = true) (hb : vldD b = true) : vldD (mrg a b) = true := by
  rw [vldD_iff] at *
  refine ⟨?_, ?_, vld_over _ _ ha.2.2 hb.2.2⟩
  · have := Nat.or_lt_two_pow (x := a.n) (y := b.n) (n := 8) (by omega) (by omega)
    show a.n ||| b.n ≤ 255
    omega
  · rw [over_mrg, ha.2.1]
    rfl
theorem mrgE_cases (a b : Dcl) : (vldD a = true ∧ vldD b = true ∧ mrgE a b = 0 ∧ mrgV a b = mrg a b) ∨ (mrgE a b = 60 ∧ mrgV a b = .zero) := by
  unfold mrgE mrgV
  cases vldD a <;> cases vldD b <;> simp
theorem resE_cases (s : Sty) (d : Dcl) : (vld s = true ∧ vldD d = true ∧ resE s d = 0 ∧ resV s d = over s d) ∨ (resE s d = 60 ∧ resV s d = .zero) := by
  unfold resE resV
  cases vld s <;> cases vldD d <;> simp

/-! ### nothing in common -/
theorem apart_bit (a b i : Nat) (h : a &&& b = 0) : ¬ (a.testBit i = true ∧ b.testBit i = true) := by
  intro ⟨h1, h2⟩
  have h3 : (a &&& b).testBit i = true := by rw [Nat.testBit_and, h1, h2]; rfl
  rw [h, Nat.zero_testBit] at h3
  cases h3
theorem over_comm (s : Sty) (a b : Dcl) (h : a.n &&& b.n = 0) : over (over s a) b = over (over s b) a := by
  have hb := fun i => apart_bit a.n b.n i h
  simp only [over, ovk]
  congr 1
  · have := hb 0; cases h1 : a.n.testBit 0 <;> cases h2 : b.n.testBit 0 <;> simp_all
  · have := hb 1; cases h1 : a.n.testBit 1 <;> cases h2 : b.n.testBit 1 <;> simp_all
  · have := hb 2; cases h1 : a.n.testBit 2 <;> cases h2 : b.n.testBit 2 <;> simp_all
  · have := hb 3; cases h1 : a.n.testBit 3 <;> cases h2 : b.n.testBit 3 <;> simp_all
  · have := hb 4; cases h1 : a.n.testBit 4 <;> cases h2 : b.n.testBit 4 <;> simp_all
  · have := hb 5; cases h1 : a.n.testBit 5 <;> cases h2 : b.n.testBit 5 <;> simp_all
  · have := hb 6; cases h1 : a.n.testBit 6 <;> cases h2 : b.n.testBit 6 <;> simp_all
  · have := hb 7; cases h1 : a.n.testBit 7 <;> cases h2 : b.n.testBit 7 <;> simp_all
  · have := hb 7; cases h1 : a.n.testBit 7 <;> cases h2 : b.n.testBit 7 <;> simp_all
theorem mrg_comm (a b : Dcl) (ha : vldD a = true) (hb : vldD b = true) (h : a.n &&& b.n = 0) : mrg a b = mrg b a := by
  rw [vldD_iff] at *
  have e := over_comm .zero a b h
  rw [ha.2.1, hb.2.1] at e
  show Dcl.mk (a.n ||| b.n) (over a.s b) = Dcl.mk (b.n ||| a.n) (over b.s a)
  rw [e, Nat.or_comm]
theorem mrgV_comm (a b : Dcl) (h : a.n &&& b.n = 0) : mrgV b a = mrgV a b ∧ mrgE b a = mrgE a b := by
  unfold mrgV mrgE
  cases ha : vldD a <;> cases hb : vldD b <;> simp
  exact (mrg_comm a b ha hb h).symm
end Go.Proofs.Ythdihhfbkfenmaa
