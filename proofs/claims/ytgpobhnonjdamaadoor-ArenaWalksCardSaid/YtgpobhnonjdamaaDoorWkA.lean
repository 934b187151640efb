/- Contracts of the document's Check and First for layer 6. No condition. -/
import Derived.Test.YtgpobhnonjdamaaDoorY2
import Derived.Test.YtgpobhnonjdamaaDoorYBits
import Derived.Test.YtgpobhnonjdamaaDoorY6
import Derived.Test.YtgpobhnonjdamaaDoorYV
import Derived.Test.YtgpobhnonjdamaaDoorYTail
import Derived.Test.YtgpobhnonjdamaaDoorYApp
import Derived.Test.YtgpobhnonjdamaaDoorYS
namespace Go.Proofs.YtgpobhnonjdamaaDoor
open Go.ChangeShapes Go.WideShapes Go.ChangeAt Go.RowKit

theorem chk_of (s : Sty) (h : s.a0 ≤ 5 ∧ s.a1 ≤ 2 ∧ s.a2 ≤ 1 ∧ s.a3 ≤ 3 ∧ 0 ≤ s.a4 ∧ s.a4 ≤ 64 ∧ 0 ≤ s.a5 ∧ s.a5 ≤ 63 ∧ 0 ≤ s.a6 ∧ s.a6 ≤ 1073741824 ∧ s.a7 ≤ 2 ∧ 0 ≤ s.a8 ∧ s.a8 ≤ 1073741824) : chk s = 0 := by
  unfold chk vld vld1
  simp [h]
theorem chk_bad (s : Sty) (h : ¬ (s.a0 ≤ 5 ∧ s.a1 ≤ 2 ∧ s.a2 ≤ 1 ∧ s.a3 ≤ 3 ∧ 0 ≤ s.a4 ∧ s.a4 ≤ 64 ∧ 0 ≤ s.a5 ∧ s.a5 ≤ 63 ∧ 0 ≤ s.a6 ∧ s.a6 ≤ 1073741824 ∧ s.a7 ≤ 2 ∧ 0 ≤ s.a8 ∧ s.a8 ≤ 1073741824)) : chk s = 60 := by
  unfold chk
  have e : vld s = false := by
    apply Bool.eq_false_iff.2
    intro h2
    apply h
    unfold vld vld1 at h2
    simp at h2
    omega
  rw [e]
  rfl

set_option maxRecDepth 100000 in
set_option maxHeartbeats 8000000 in
theorem rcheck_any (s : Sty) (w : World) :
    Calls Tryd.prog 53 #[.agg s.cells] w fun e w' => e = .returned (.int .i64 (chk s)) ∧ Below w.heap.size w w' := by
  have H0 := Lib.hid (chk_of s)
  have H1 := Lib.hid (chk_bad s)
  obtain ⟨c, hc⟩ : ∃ c, chk s = c := ⟨_, rfl⟩
  rw [hc] at H0 H1 ⊢
  clear hc
  obtain ⟨a0, a1, a2, a3, a4, a5, a6, a7, a8⟩ := s
  unfold Sty.cells
  simp only at H0 H1 ⊢
  by_cases h0 : 5 < a0
  · have e := H1.out (by omega)
    subst e
    clear H0 H1
    go_enter Tryd.func53, Tryd.ntmps53
    go_wp2
    go_ret
    exact ⟨rfl, below_alloc _ _⟩
  have g0 : a0 ≤ 5 := by omega
  clear h0
  by_cases h1 : 2 < a1
  · have e := H1.out (by omega)
    subst e
    clear H0 H1
    go_enter Tryd.func53, Tryd.ntmps53
    go_wp2
    go_ret
    exact ⟨rfl, below_alloc _ _⟩
  have g1 : a1 ≤ 2 := by omega
  clear h1
  by_cases h2 : 1 < a2
  · have e := H1.out (by omega)
    subst e
    clear H0 H1
    go_enter Tryd.func53, Tryd.ntmps53
    go_wp2
    go_ret
    exact ⟨rfl, below_alloc _ _⟩
  have g2 : a2 ≤ 1 := by omega
  clear h2
  by_cases h3 : 3 < a3
  · have e := H1.out (by omega)
    subst e
    clear H0 H1
    go_enter Tryd.func53, Tryd.ntmps53
    go_wp2
    go_ret
    exact ⟨rfl, below_alloc _ _⟩
  have g3 : a3 ≤ 3 := by omega
  clear h3
  by_cases h4 : 2 < a7
  · have e := H1.out (by omega)
    subst e
    clear H0 H1
    go_enter Tryd.func53, Tryd.ntmps53
    go_wp2
    go_ret
    exact ⟨rfl, below_alloc _ _⟩
  have g4 : a7 ≤ 2 := by omega
  clear h4
  by_cases h5 : a4 < 0
  · have e := H1.out (by omega)
    subst e
    clear H0 H1
    go_enter Tryd.func53, Tryd.ntmps53
    go_wp2
    go_ret
    exact ⟨rfl, below_alloc _ _⟩
  have g5 : 0 ≤ a4 := by omega
  clear h5
  by_cases h6 : 64 < a4
  · have e := H1.out (by omega)
    subst e
    clear H0 H1
    go_enter Tryd.func53, Tryd.ntmps53
    go_wp2
    go_ret
    exact ⟨rfl, below_alloc _ _⟩
  have g6 : a4 ≤ 64 := by omega
  clear h6
  by_cases h7 : a5 < 0
  · have e := H1.out (by omega)
    subst e
    clear H0 H1
    go_enter Tryd.func53, Tryd.ntmps53
    go_wp2
    go_ret
    exact ⟨rfl, below_alloc _ _⟩
  have g7 : 0 ≤ a5 := by omega
  clear h7
  by_cases h8 : 63 < a5
  · have e := H1.out (by omega)
    subst e
    clear H0 H1
    go_enter Tryd.func53, Tryd.ntmps53
    go_wp2
    go_ret
    exact ⟨rfl, below_alloc _ _⟩
  have g8 : a5 ≤ 63 := by omega
  clear h8
  by_cases h9 : a6 < 0
  · have e := H1.out (by omega)
    subst e
    clear H0 H1
    go_enter Tryd.func53, Tryd.ntmps53
    go_wp2
    go_ret
    exact ⟨rfl, below_alloc _ _⟩
  have g9 : 0 ≤ a6 := by omega
  clear h9
  by_cases h10 : 1073741824 < a6
  · have e := H1.out (by omega)
    subst e
    clear H0 H1
    go_enter Tryd.func53, Tryd.ntmps53
    go_wp2
    go_ret
    exact ⟨rfl, below_alloc _ _⟩
  have g10 : a6 ≤ 1073741824 := by omega
  clear h10
  by_cases h11 : a8 < 0
  · have e := H1.out (by omega)
    subst e
    clear H0 H1
    go_enter Tryd.func53, Tryd.ntmps53
    go_wp2
    go_ret
    exact ⟨rfl, below_alloc _ _⟩
  have g11 : 0 ≤ a8 := by omega
  clear h11
  by_cases h12 : 1073741824 < a8
  · have e := H1.out (by omega)
    subst e
    clear H0 H1
    go_enter Tryd.func53, Tryd.ntmps53
    go_wp2
    go_ret
    exact ⟨rfl, below_alloc _ _⟩
  have g12 : a8 ≤ 1073741824 := by omega
  clear h12
  have e := H0.out (by omega)
  subst e
  clear H0 H1
  go_enter Tryd.func53, Tryd.ntmps53
  go_wp2
  go_ret
  exact ⟨rfl, below_alloc _ _⟩

end Go.Proofs.YtgpobhnonjdamaaDoor

/- Contracts of the document's Says, One, Check, First for layer 6. Condition: a declaration's bits are a 16-bit number. -/
namespace Go.Proofs.YtgpobhnonjdamaaDoor
open Go.ChangeShapes Go.WideShapes Go.ChangeAt Go.RowKit

set_option maxHeartbeats 1000000 in
theorem rsays0 (d : Dcl) (w : World) (hn : d.n < 65536) :
    Calls Tryd.prog 67 #[.agg d.cells, .int .i64 0] w fun e w' => e = .returned (.bool (d.n.testBit 0)) ∧ Below w.heap.size w w' := by
  by_cases h : d.n.testBit 0 = true
  · have e : bits .and .u16 (d.n : Int) 1 = 1 := bit_yes d.n 0 1 hn h rfl (by omega)
    rw [h]
    clear h
    unfold Dcl.cells
    go_enter Tryd.func67, Tryd.ntmps67
    go_wp2
    go_ret
    exact ⟨rfl, below_alloc _ _⟩
  · have h2 := Bool.eq_false_iff.2 h
    have e : bits .and .u16 (d.n : Int) 1 = 0 := bit_no d.n 0 1 hn h2 rfl (by omega)
    rw [h2]
    clear h h2
    unfold Dcl.cells
    go_enter Tryd.func67, Tryd.ntmps67
    go_wp2
    go_ret
    exact ⟨rfl, below_alloc _ _⟩

set_option maxHeartbeats 1000000 in
theorem rsays1 (d : Dcl) (w : World) (hn : d.n < 65536) :
    Calls Tryd.prog 67 #[.agg d.cells, .int .i64 1] w fun e w' => e = .returned (.bool (d.n.testBit 1)) ∧ Below w.heap.size w w' := by
  by_cases h : d.n.testBit 1 = true
  · have e : bits .and .u16 ((d.n : Int) / 2) 1 = 1 := shr_yes d.n 1 2 hn h rfl
    rw [h]
    clear h
    unfold Dcl.cells
    go_enter Tryd.func67, Tryd.ntmps67
    go_wp2
    go_ret
    exact ⟨rfl, below_alloc _ _⟩
  · have h2 := Bool.eq_false_iff.2 h
    have e : bits .and .u16 ((d.n : Int) / 2) 1 = 0 := shr_no d.n 1 2 hn h2 rfl
    rw [h2]
    clear h h2
    unfold Dcl.cells
    go_enter Tryd.func67, Tryd.ntmps67
    go_wp2
    go_ret
    exact ⟨rfl, below_alloc _ _⟩

set_option maxHeartbeats 1000000 in
theorem rsays2 (d : Dcl) (w : World) (hn : d.n < 65536) :
    Calls Tryd.prog 67 #[.agg d.cells, .int .i64 2] w fun e w' => e = .returned (.bool (d.n.testBit 2)) ∧ Below w.heap.size w w' := by
  by_cases h : d.n.testBit 2 = true
  · have e : bits .and .u16 ((d.n : Int) / 4) 1 = 1 := shr_yes d.n 2 4 hn h rfl
    rw [h]
    clear h
    unfold Dcl.cells
    go_enter Tryd.func67, Tryd.ntmps67
    go_wp2
    go_ret
    exact ⟨rfl, below_alloc _ _⟩
  · have h2 := Bool.eq_false_iff.2 h
    have e : bits .and .u16 ((d.n : Int) / 4) 1 = 0 := shr_no d.n 2 4 hn h2 rfl
    rw [h2]
    clear h h2
    unfold Dcl.cells
    go_enter Tryd.func67, Tryd.ntmps67
    go_wp2
    go_ret
    exact ⟨rfl, below_alloc _ _⟩

set_option maxHeartbeats 1000000 in
theorem rsays3 (d : Dcl) (w : World) (hn : d.n < 65536) :
    Calls Tryd.prog 67 #[.agg d.cells, .int .i64 3] w fun e w' => e = .returned (.bool (d.n.testBit 3)) ∧ Below w.heap.size w w' := by
  by_cases h : d.n.testBit 3 = true
  · have e : bits .and .u16 ((d.n : Int) / 8) 1 = 1 := shr_yes d.n 3 8 hn h rfl
    rw [h]
    clear h
    unfold Dcl.cells
    go_enter Tryd.func67, Tryd.ntmps67
    go_wp2
    go_ret
    exact ⟨rfl, below_alloc _ _⟩
  · have h2 := Bool.eq_false_iff.2 h
    have e : bits .and .u16 ((d.n : Int) / 8) 1 = 0 := shr_no d.n 3 8 hn h2 rfl
    rw [h2]
    clear h h2
    unfold Dcl.cells
    go_enter Tryd.func67, Tryd.ntmps67
    go_wp2
    go_ret
    exact ⟨rfl, below_alloc _ _⟩

set_option maxHeartbeats 1000000 in
theorem rsays4 (d : Dcl) (w : World) (hn : d.n < 65536) :
    Calls Tryd.prog 67 #[.agg d.cells, .int .i64 4] w fun e w' => e = .returned (.bool (d.n.testBit 4)) ∧ Below w.heap.size w w' := by
  by_cases h : d.n.testBit 4 = true
  · have e : bits .and .u16 ((d.n : Int) / 16) 1 = 1 := shr_yes d.n 4 16 hn h rfl
    rw [h]
    clear h
    unfold Dcl.cells
    go_enter Tryd.func67, Tryd.ntmps67
    go_wp2
    go_ret
    exact ⟨rfl, below_alloc _ _⟩
  · have h2 := Bool.eq_false_iff.2 h
    have e : bits .and .u16 ((d.n : Int) / 16) 1 = 0 := shr_no d.n 4 16 hn h2 rfl
    rw [h2]
    clear h h2
    unfold Dcl.cells
    go_enter Tryd.func67, Tryd.ntmps67
    go_wp2
    go_ret
    exact ⟨rfl, below_alloc _ _⟩

set_option maxHeartbeats 1000000 in
theorem rsays5 (d : Dcl) (w : World) (hn : d.n < 65536) :
    Calls Tryd.prog 67 #[.agg d.cells, .int .i64 5] w fun e w' => e = .returned (.bool (d.n.testBit 5)) ∧ Below w.heap.size w w' := by
  by_cases h : d.n.testBit 5 = true
  · have e : bits .and .u16 ((d.n : Int) / 32) 1 = 1 := shr_yes d.n 5 32 hn h rfl
    rw [h]
    clear h
    unfold Dcl.cells
    go_enter Tryd.func67, Tryd.ntmps67
    go_wp2
    go_ret
    exact ⟨rfl, below_alloc _ _⟩
  · have h2 := Bool.eq_false_iff.2 h
    have e : bits .and .u16 ((d.n : Int) / 32) 1 = 0 := shr_no d.n 5 32 hn h2 rfl
    rw [h2]
    clear h h2
    unfold Dcl.cells
    go_enter Tryd.func67, Tryd.ntmps67
    go_wp2
    go_ret
    exact ⟨rfl, below_alloc _ _⟩

set_option maxHeartbeats 1000000 in
theorem rsays6 (d : Dcl) (w : World) (hn : d.n < 65536) :
    Calls Tryd.prog 67 #[.agg d.cells, .int .i64 6] w fun e w' => e = .returned (.bool (d.n.testBit 6)) ∧ Below w.heap.size w w' := by
  by_cases h : d.n.testBit 6 = true
  · have e : bits .and .u16 ((d.n : Int) / 64) 1 = 1 := shr_yes d.n 6 64 hn h rfl
    rw [h]
    clear h
    unfold Dcl.cells
    go_enter Tryd.func67, Tryd.ntmps67
    go_wp2
    go_ret
    exact ⟨rfl, below_alloc _ _⟩
  · have h2 := Bool.eq_false_iff.2 h
    have e : bits .and .u16 ((d.n : Int) / 64) 1 = 0 := shr_no d.n 6 64 hn h2 rfl
    rw [h2]
    clear h h2
    unfold Dcl.cells
    go_enter Tryd.func67, Tryd.ntmps67
    go_wp2
    go_ret
    exact ⟨rfl, below_alloc _ _⟩

set_option maxHeartbeats 1000000 in
theorem rsays7 (d : Dcl) (w : World) (hn : d.n < 65536) :
    Calls Tryd.prog 67 #[.agg d.cells, .int .i64 7] w fun e w' => e = .returned (.bool (d.n.testBit 7)) ∧ Below w.heap.size w w' := by
  by_cases h : d.n.testBit 7 = true
  · have e : bits .and .u16 ((d.n : Int) / 128) 1 = 1 := shr_yes d.n 7 128 hn h rfl
    rw [h]
    clear h
    unfold Dcl.cells
    go_enter Tryd.func67, Tryd.ntmps67
    go_wp2
    go_ret
    exact ⟨rfl, below_alloc _ _⟩
  · have h2 := Bool.eq_false_iff.2 h
    have e : bits .and .u16 ((d.n : Int) / 128) 1 = 0 := shr_no d.n 7 128 hn h2 rfl
    rw [h2]
    clear h h2
    unfold Dcl.cells
    go_enter Tryd.func67, Tryd.ntmps67
    go_wp2
    go_ret
    exact ⟨rfl, below_alloc _ _⟩

set_option maxRecDepth 100000 in
set_option maxHeartbeats 1000000 in
theorem rone0 (s d : Sty) (w : World) :
    Calls Tryd.prog 68 #[.agg s.cells, .agg d.cells, .int .i64 0] w fun e w' => e = .returned (.agg (put1 0 s d).cells) ∧ Below w.heap.size w w' := by
  unfold Sty.cells
  go_enter Tryd.func68, Tryd.ntmps68
  go_wp2
  exact bodyPost_ret (v := .agg (put1 0 s d).cells) (by simp [results, Tryd.results68, go_sem, Sty.cells, put1]) rfl ⟨rfl, (((Below.refl _ _).alloc (Nat.le_refl _) _).alloc (by simp) _).alloc (by simp; omega) _⟩

set_option maxRecDepth 100000 in
set_option maxHeartbeats 1000000 in
theorem rone1 (s d : Sty) (w : World) :
    Calls Tryd.prog 68 #[.agg s.cells, .agg d.cells, .int .i64 1] w fun e w' => e = .returned (.agg (put1 1 s d).cells) ∧ Below w.heap.size w w' := by
  unfold Sty.cells
  go_enter Tryd.func68, Tryd.ntmps68
  go_wp2
  exact bodyPost_ret (v := .agg (put1 1 s d).cells) (by simp [results, Tryd.results68, go_sem, Sty.cells, put1]) rfl ⟨rfl, (((Below.refl _ _).alloc (Nat.le_refl _) _).alloc (by simp) _).alloc (by simp; omega) _⟩

set_option maxRecDepth 100000 in
set_option maxHeartbeats 1000000 in
theorem rone2 (s d : Sty) (w : World) :
    Calls Tryd.prog 68 #[.agg s.cells, .agg d.cells, .int .i64 2] w fun e w' => e = .returned (.agg (put1 2 s d).cells) ∧ Below w.heap.size w w' := by
  unfold Sty.cells
  go_enter Tryd.func68, Tryd.ntmps68
  go_wp2
  exact bodyPost_ret (v := .agg (put1 2 s d).cells) (by simp [results, Tryd.results68, go_sem, Sty.cells, put1]) rfl ⟨rfl, (((Below.refl _ _).alloc (Nat.le_refl _) _).alloc (by simp) _).alloc (by simp; omega) _⟩

set_option maxRecDepth 100000 in
set_option maxHeartbeats 1000000 in
theorem rone3 (s d : Sty) (w : World) :
    Calls Tryd.prog 68 #[.agg s.cells, .agg d.cells, .int .i64 3] w fun e w' => e = .returned (.agg (put1 3 s d).cells) ∧ Below w.heap.size w w' := by
  unfold Sty.cells
  go_enter Tryd.func68, Tryd.ntmps68
  go_wp2
  exact bodyPost_ret (v := .agg (put1 3 s d).cells) (by simp [results, Tryd.results68, go_sem, Sty.cells, put1]) rfl ⟨rfl, (((Below.refl _ _).alloc (Nat.le_refl _) _).alloc (by simp) _).alloc (by simp; omega) _⟩

set_option maxRecDepth 100000 in
set_option maxHeartbeats 1000000 in
theorem rone4 (s d : Sty) (w : World) :
    Calls Tryd.prog 68 #[.agg s.cells, .agg d.cells, .int .i64 4] w fun e w' => e = .returned (.agg (put1 4 s d).cells) ∧ Below w.heap.size w w' := by
  unfold Sty.cells
  go_enter Tryd.func68, Tryd.ntmps68
  go_wp2
  exact bodyPost_ret (v := .agg (put1 4 s d).cells) (by simp [results, Tryd.results68, go_sem, Sty.cells, put1]) rfl ⟨rfl, (((Below.refl _ _).alloc (Nat.le_refl _) _).alloc (by simp) _).alloc (by simp; omega) _⟩

set_option maxRecDepth 100000 in
set_option maxHeartbeats 1000000 in
theorem rone5 (s d : Sty) (w : World) :
    Calls Tryd.prog 68 #[.agg s.cells, .agg d.cells, .int .i64 5] w fun e w' => e = .returned (.agg (put1 5 s d).cells) ∧ Below w.heap.size w w' := by
  unfold Sty.cells
  go_enter Tryd.func68, Tryd.ntmps68
  go_wp2
  exact bodyPost_ret (v := .agg (put1 5 s d).cells) (by simp [results, Tryd.results68, go_sem, Sty.cells, put1]) rfl ⟨rfl, (((Below.refl _ _).alloc (Nat.le_refl _) _).alloc (by simp) _).alloc (by simp; omega) _⟩

set_option maxRecDepth 100000 in
set_option maxHeartbeats 1000000 in
theorem rone6 (s d : Sty) (w : World) :
    Calls Tryd.prog 68 #[.agg s.cells, .agg d.cells, .int .i64 6] w fun e w' => e = .returned (.agg (put1 6 s d).cells) ∧ Below w.heap.size w w' := by
  unfold Sty.cells
  go_enter Tryd.func68, Tryd.ntmps68
  go_wp2
  exact bodyPost_ret (v := .agg (put1 6 s d).cells) (by simp [results, Tryd.results68, go_sem, Sty.cells, put1]) rfl ⟨rfl, (((Below.refl _ _).alloc (Nat.le_refl _) _).alloc (by simp) _).alloc (by simp; omega) _⟩

set_option maxRecDepth 100000 in
set_option maxHeartbeats 1000000 in
theorem rone7 (s d : Sty) (w : World) :
    Calls Tryd.prog 68 #[.agg s.cells, .agg d.cells, .int .i64 7] w fun e w' => e = .returned (.agg (put1 7 s d).cells) ∧ Below w.heap.size w w' := by
  unfold Sty.cells
  go_enter Tryd.func68, Tryd.ntmps68
  go_wp2
  exact bodyPost_ret (v := .agg (put1 7 s d).cells) (by simp [results, Tryd.results68, go_sem, Sty.cells, put1]) rfl ⟨rfl, (((Below.refl _ _).alloc (Nat.le_refl _) _).alloc (by simp) _).alloc (by simp; omega) _⟩
end Go.Proofs.YtgpobhnonjdamaaDoor

/- Contract of the document's Over for layer 6. Condition: a declaration's bits are a 16-bit number. -/
namespace Go.Proofs.YtgpobhnonjdamaaDoor
open Go.ChangeShapes Go.WideShapes Go.ChangeAt Go.RowKit

set_option maxRecDepth 100000 in
set_option maxHeartbeats 8000000 in
theorem rover_any (s : Sty) (d : Dcl) (w : World) (hn : d.n < 65536) :
    Calls Tryd.prog 66 #[.agg s.cells, .agg d.cells] w fun e w' => e = .returned (.agg (over s d).cells) ∧ Below w.heap.size w w' := by
  go_enter Tryd.func66, Tryd.ntmps66
  go_wp2_with (first
    | (refine bxSV rfl (.tmp 0) rfl s rfl ?_; intro w1 b1 B1)
    | (refine bxDV rfl (.tmp 1) rfl d rfl ?_; intro w2 b2 B2)
    | (refine alSV rfl rfl ?_; intro w3 b3 B3))
  have hlt : w.heap.size < w1.heap.size := B1.lt
  have hlt2 : w1.heap.size < w2.heap.size := B2.lt
  have A0 : Blk w3 w.heap.size 31 (ovk 0 s d.n d.s).cells := ovk_zero s d.n d.s ▸ (B1.keep (S := fun _ => False) (Mod.of_below b2) id).keep (S := fun _ => False) (Mod.of_below b3) id
  have A1 : Blk w3 w1.heap.size 33 d.cells := B2.keep (S := fun _ => False) (Mod.of_below b3) id
  have A2 : Blk w3 w2.heap.size 31 Sty.zero.cells := B3
  have b03 := below_seq (below_seq b1 b2) b3
  clear b1 B1 b2 B2 b3 B3
  obtain ⟨g, hg⟩ : ∃ g, w1.heap.size = g := ⟨_, rfl⟩
  obtain ⟨g2, hg2⟩ : ∃ g, w2.heap.size = g := ⟨_, rfl⟩
  rw [hg] at hlt hlt2 A1 ⊢
  rw [hg2] at hlt2 A2 ⊢
  clear hg hg2
  go_loopg [5] 8 (fun kx s5 wr => ∃ (k : Nat) (z : Int), z = k ∧ s5 = .int .i64 z ∧ k ≤ 8 ∧ kx = 8 - k ∧ Below w.heap.size w wr ∧ Blk wr w.heap.size 31 (ovk k s d.n d.s).cells ∧ Blk wr g 33 d.cells ∧ Blk wr g2 31 Sty.zero.cells)
  case atStart => exact ⟨0, 0, rfl, rfl, by omega, rfl, b03, A0, A1, A2⟩
  case round =>
    obtain ⟨k, z, hz, rfl, hk, rfl, bel, h0, h1, h2⟩ := hrel
    clear A0 A1 A2 b03
    by_cases hlt3 : k < 8
    · clear hk
      rcases (show k = 0 ∨ k = 1 ∨ k = 2 ∨ k = 3 ∨ k = 4 ∨ k = 5 ∨ k = 6 ∨ k = 7 from by omega) with rfl | rfl | rfl | rfl | rfl | rfl | rfl | rfl
      · obtain rfl : z = 0 := by omega
        clear hz hlt3
        have C := Lib.hid (fun w => rsays0 d w hn)
        by_cases hb : d.n.testBit 0 = true
        · have hy := ovk_yes 0 (by omega) s d.n d.s hb
          have HY := Lib.hid hy
          rw [hb] at C
          clear hb hy
          go_wp2_with (refine ldD rfl (.tmp 3) rfl _ rfl d h1.lies ?_)
          refine (C.out _).mono ?_
          rintro e w5 ⟨rfl, b5⟩
          have K0 := h0.keep (S := fun _ => False) (Mod.of_below b5) id
          have K1 := h1.keep (S := fun _ => False) (Mod.of_below b5) id
          have K2 := h2.keep (S := fun _ => False) (Mod.of_below b5) id
          go_wp2_with (first
            | (refine ldS rfl (.tmp 2) rfl _ rfl (ovk 0 s d.n d.s) K0.lies ?_)
            | (refine ldS rfl (.tmp 14) rfl _ rfl d.s K1.sub ?_))
          refine (rone0 (ovk 0 s d.n d.s) d.s _).mono ?_
          rintro e w6 ⟨rfl, b6⟩
          go_wp2_with (refine stS rfl (.tmp 2) (.tmp 17) rfl rfl _ rfl (put1 0 (ovk 0 s d.n d.s) d.s) rfl (ovk 0 s d.n d.s) (K0.keep (S := fun _ => False) (Mod.of_below b6) id) ?_; intro w7 m7 B7)
          go_roundg (8 - 1)
          case measure => omega
          case rel => exact ⟨1, 1, rfl, rfl, by omega, rfl, bel.trans (((below_seq b5 b6).mono bel.size).trans (m7.below (Nat.le_trans bel.size (below_seq b5 b6).size) (fun k hk => by omega))), by rw [HY.out]; exact B7, (K1.keep (S := fun _ => False) (Mod.of_below b6) id).keep m7 (by omega), (K2.keep (S := fun _ => False) (Mod.of_below b6) id).keep m7 (by omega)⟩
        · have hb2 := Bool.eq_false_iff.2 hb
          have hy := ovk_no 0 (by omega) s d.n d.s hb2
          have HY := Lib.hid hy
          rw [hb2] at C
          clear hb hb2 hy
          go_wp2_with (refine ldD rfl (.tmp 3) rfl _ rfl d h1.lies ?_)
          refine (C.out _).mono ?_
          rintro e w5 ⟨rfl, b5⟩
          go_wp2_with fail
          go_roundg (8 - 1)
          case measure => omega
          case rel => exact ⟨1, 1, rfl, rfl, by omega, rfl, bel.trans (b5.mono bel.size), by rw [HY.out]; exact h0.keep (S := fun _ => False) (Mod.of_below b5) id, h1.keep (S := fun _ => False) (Mod.of_below b5) id, h2.keep (S := fun _ => False) (Mod.of_below b5) id⟩
      · obtain rfl : z = 1 := by omega
        clear hz hlt3
        have C := Lib.hid (fun w => rsays1 d w hn)
        by_cases hb : d.n.testBit 1 = true
        · have hy := ovk_yes 1 (by omega) s d.n d.s hb
          have HY := Lib.hid hy
          rw [hb] at C
          clear hb hy
          go_wp2_with (refine ldD rfl (.tmp 3) rfl _ rfl d h1.lies ?_)
          refine (C.out _).mono ?_
          rintro e w5 ⟨rfl, b5⟩
          have K0 := h0.keep (S := fun _ => False) (Mod.of_below b5) id
          have K1 := h1.keep (S := fun _ => False) (Mod.of_below b5) id
          have K2 := h2.keep (S := fun _ => False) (Mod.of_below b5) id
          go_wp2_with (first
            | (refine ldS rfl (.tmp 2) rfl _ rfl (ovk 1 s d.n d.s) K0.lies ?_)
            | (refine ldS rfl (.tmp 14) rfl _ rfl d.s K1.sub ?_))
          refine (rone1 (ovk 1 s d.n d.s) d.s _).mono ?_
          rintro e w6 ⟨rfl, b6⟩
          go_wp2_with (refine stS rfl (.tmp 2) (.tmp 17) rfl rfl _ rfl (put1 1 (ovk 1 s d.n d.s) d.s) rfl (ovk 1 s d.n d.s) (K0.keep (S := fun _ => False) (Mod.of_below b6) id) ?_; intro w7 m7 B7)
          go_roundg (8 - 2)
          case measure => omega
          case rel => exact ⟨2, 2, rfl, rfl, by omega, rfl, bel.trans (((below_seq b5 b6).mono bel.size).trans (m7.below (Nat.le_trans bel.size (below_seq b5 b6).size) (fun k hk => by omega))), by rw [HY.out]; exact B7, (K1.keep (S := fun _ => False) (Mod.of_below b6) id).keep m7 (by omega), (K2.keep (S := fun _ => False) (Mod.of_below b6) id).keep m7 (by omega)⟩
        · have hb2 := Bool.eq_false_iff.2 hb
          have hy := ovk_no 1 (by omega) s d.n d.s hb2
          have HY := Lib.hid hy
          rw [hb2] at C
          clear hb hb2 hy
          go_wp2_with (refine ldD rfl (.tmp 3) rfl _ rfl d h1.lies ?_)
          refine (C.out _).mono ?_
          rintro e w5 ⟨rfl, b5⟩
          go_wp2_with fail
          go_roundg (8 - 2)
          case measure => omega
          case rel => exact ⟨2, 2, rfl, rfl, by omega, rfl, bel.trans (b5.mono bel.size), by rw [HY.out]; exact h0.keep (S := fun _ => False) (Mod.of_below b5) id, h1.keep (S := fun _ => False) (Mod.of_below b5) id, h2.keep (S := fun _ => False) (Mod.of_below b5) id⟩
      · obtain rfl : z = 2 := by omega
        clear hz hlt3
        have C := Lib.hid (fun w => rsays2 d w hn)
        by_cases hb : d.n.testBit 2 = true
        · have hy := ovk_yes 2 (by omega) s d.n d.s hb
          have HY := Lib.hid hy
          rw [hb] at C
          clear hb hy
          go_wp2_with (refine ldD rfl (.tmp 3) rfl _ rfl d h1.lies ?_)
          refine (C.out _).mono ?_
          rintro e w5 ⟨rfl, b5⟩
          have K0 := h0.keep (S := fun _ => False) (Mod.of_below b5) id
          have K1 := h1.keep (S := fun _ => False) (Mod.of_below b5) id
          have K2 := h2.keep (S := fun _ => False) (Mod.of_below b5) id
          go_wp2_with (first
            | (refine ldS rfl (.tmp 2) rfl _ rfl (ovk 2 s d.n d.s) K0.lies ?_)
            | (refine ldS rfl (.tmp 14) rfl _ rfl d.s K1.sub ?_))
          refine (rone2 (ovk 2 s d.n d.s) d.s _).mono ?_
          rintro e w6 ⟨rfl, b6⟩
          go_wp2_with (refine stS rfl (.tmp 2) (.tmp 17) rfl rfl _ rfl (put1 2 (ovk 2 s d.n d.s) d.s) rfl (ovk 2 s d.n d.s) (K0.keep (S := fun _ => False) (Mod.of_below b6) id) ?_; intro w7 m7 B7)
          go_roundg (8 - 3)
          case measure => omega
          case rel => exact ⟨3, 3, rfl, rfl, by omega, rfl, bel.trans (((below_seq b5 b6).mono bel.size).trans (m7.below (Nat.le_trans bel.size (below_seq b5 b6).size) (fun k hk => by omega))), by rw [HY.out]; exact B7, (K1.keep (S := fun _ => False) (Mod.of_below b6) id).keep m7 (by omega), (K2.keep (S := fun _ => False) (Mod.of_below b6) id).keep m7 (by omega)⟩
        · have hb2 := Bool.eq_false_iff.2 hb
          have hy := ovk_no 2 (by omega) s d.n d.s hb2
          have HY := Lib.hid hy
          rw [hb2] at C
          clear hb hb2 hy
          go_wp2_with (refine ldD rfl (.tmp 3) rfl _ rfl d h1.lies ?_)
          refine (C.out _).mono ?_
          rintro e w5 ⟨rfl, b5⟩
          go_wp2_with fail
          go_roundg (8 - 3)
          case measure => omega
          case rel => exact ⟨3, 3, rfl, rfl, by omega, rfl, bel.trans (b5.mono bel.size), by rw [HY.out]; exact h0.keep (S := fun _ => False) (Mod.of_below b5) id, h1.keep (S := fun _ => False) (Mod.of_below b5) id, h2.keep (S := fun _ => False) (Mod.of_below b5) id⟩
      · obtain rfl : z = 3 := by omega
        clear hz hlt3
        have C := Lib.hid (fun w => rsays3 d w hn)
        by_cases hb : d.n.testBit 3 = true
        · have hy := ovk_yes 3 (by omega) s d.n d.s hb
          have HY := Lib.hid hy
          rw [hb] at C
          clear hb hy
          go_wp2_with (refine ldD rfl (.tmp 3) rfl _ rfl d h1.lies ?_)
          refine (C.out _).mono ?_
          rintro e w5 ⟨rfl, b5⟩
          have K0 := h0.keep (S := fun _ => False) (Mod.of_below b5) id
          have K1 := h1.keep (S := fun _ => False) (Mod.of_below b5) id
          have K2 := h2.keep (S := fun _ => False) (Mod.of_below b5) id
          go_wp2_with (first
            | (refine ldS rfl (.tmp 2) rfl _ rfl (ovk 3 s d.n d.s) K0.lies ?_)
            | (refine ldS rfl (.tmp 14) rfl _ rfl d.s K1.sub ?_))
          refine (rone3 (ovk 3 s d.n d.s) d.s _).mono ?_
          rintro e w6 ⟨rfl, b6⟩
          go_wp2_with (refine stS rfl (.tmp 2) (.tmp 17) rfl rfl _ rfl (put1 3 (ovk 3 s d.n d.s) d.s) rfl (ovk 3 s d.n d.s) (K0.keep (S := fun _ => False) (Mod.of_below b6) id) ?_; intro w7 m7 B7)
          go_roundg (8 - 4)
          case measure => omega
          case rel => exact ⟨4, 4, rfl, rfl, by omega, rfl, bel.trans (((below_seq b5 b6).mono bel.size).trans (m7.below (Nat.le_trans bel.size (below_seq b5 b6).size) (fun k hk => by omega))), by rw [HY.out]; exact B7, (K1.keep (S := fun _ => False) (Mod.of_below b6) id).keep m7 (by omega), (K2.keep (S := fun _ => False) (Mod.of_below b6) id).keep m7 (by omega)⟩
        · have hb2 := Bool.eq_false_iff.2 hb
          have hy := ovk_no 3 (by omega) s d.n d.s hb2
          have HY := Lib.hid hy
          rw [hb2] at C
          clear hb hb2 hy
          go_wp2_with (refine ldD rfl (.tmp 3) rfl _ rfl d h1.lies ?_)
          refine (C.out _).mono ?_
          rintro e w5 ⟨rfl, b5⟩
          go_wp2_with fail
          go_roundg (8 - 4)
          case measure => omega
          case rel => exact ⟨4, 4, rfl, rfl, by omega, rfl, bel.trans (b5.mono bel.size), by rw [HY.out]; exact h0.keep (S := fun _ => False) (Mod.of_below b5) id, h1.keep (S := fun _ => False) (Mod.of_below b5) id, h2.keep (S := fun _ => False) (Mod.of_below b5) id⟩
      · obtain rfl : z = 4 := by omega
        clear hz hlt3
        have C := Lib.hid (fun w => rsays4 d w hn)
        by_cases hb : d.n.testBit 4 = true
        · have hy := ovk_yes 4 (by omega) s d.n d.s hb
          have HY := Lib.hid hy
          rw [hb] at C
          clear hb hy
          go_wp2_with (refine ldD rfl (.tmp 3) rfl _ rfl d h1.lies ?_)
          refine (C.out _).mono ?_
          rintro e w5 ⟨rfl, b5⟩
          have K0 := h0.keep (S := fun _ => False) (Mod.of_below b5) id
          have K1 := h1.keep (S := fun _ => False) (Mod.of_below b5) id
          have K2 := h2.keep (S := fun _ => False) (Mod.of_below b5) id
          go_wp2_with (first
            | (refine ldS rfl (.tmp 2) rfl _ rfl (ovk 4 s d.n d.s) K0.lies ?_)
            | (refine ldS rfl (.tmp 14) rfl _ rfl d.s K1.sub ?_))
          refine (rone4 (ovk 4 s d.n d.s) d.s _).mono ?_
          rintro e w6 ⟨rfl, b6⟩
          go_wp2_with (refine stS rfl (.tmp 2) (.tmp 17) rfl rfl _ rfl (put1 4 (ovk 4 s d.n d.s) d.s) rfl (ovk 4 s d.n d.s) (K0.keep (S := fun _ => False) (Mod.of_below b6) id) ?_; intro w7 m7 B7)
          go_roundg (8 - 5)
          case measure => omega
          case rel => exact ⟨5, 5, rfl, rfl, by omega, rfl, bel.trans (((below_seq b5 b6).mono bel.size).trans (m7.below (Nat.le_trans bel.size (below_seq b5 b6).size) (fun k hk => by omega))), by rw [HY.out]; exact B7, (K1.keep (S := fun _ => False) (Mod.of_below b6) id).keep m7 (by omega), (K2.keep (S := fun _ => False) (Mod.of_below b6) id).keep m7 (by omega)⟩
        · have hb2 := Bool.eq_false_iff.2 hb
          have hy := ovk_no 4 (by omega) s d.n d.s hb2
          have HY := Lib.hid hy
          rw [hb2] at C
          clear hb hb2 hy
          go_wp2_with (refine ldD rfl (.tmp 3) rfl _ rfl d h1.lies ?_)
          refine (C.out _).mono ?_
          rintro e w5 ⟨rfl, b5⟩
          go_wp2_with fail
          go_roundg (8 - 5)
          case measure => omega
          case rel => exact ⟨5, 5, rfl, rfl, by omega, rfl, bel.trans (b5.mono bel.size), by rw [HY.out]; exact h0.keep (S := fun _ => False) (Mod.of_below b5) id, h1.keep (S := fun _ => False) (Mod.of_below b5) id, h2.keep (S := fun _ => False) (Mod.of_below b5) id⟩
      · obtain rfl : z = 5 := by omega
        clear hz hlt3
        have C := Lib.hid (fun w => rsays5 d w hn)
        by_cases hb : d.n.testBit 5 = true
        · have hy := ovk_yes 5 (by omega) s d.n d.s hb
          have HY := Lib.hid hy
          rw [hb] at C
          clear hb hy
          go_wp2_with (refine ldD rfl (.tmp 3) rfl _ rfl d h1.lies ?_)
          refine (C.out _).mono ?_
          rintro e w5 ⟨rfl, b5⟩
          have K0 := h0.keep (S := fun _ => False) (Mod.of_below b5) id
          have K1 := h1.keep (S := fun _ => False) (Mod.of_below b5) id
          have K2 := h2.keep (S := fun _ => False) (Mod.of_below b5) id
          go_wp2_with (first
            | (refine ldS rfl (.tmp 2) rfl _ rfl (ovk 5 s d.n d.s) K0.lies ?_)
            | (refine ldS rfl (.tmp 14) rfl _ rfl d.s K1.sub ?_))
          refine (rone5 (ovk 5 s d.n d.s) d.s _).mono ?_
          rintro e w6 ⟨rfl, b6⟩
          go_wp2_with (refine stS rfl (.tmp 2) (.tmp 17) rfl rfl _ rfl (put1 5 (ovk 5 s d.n d.s) d.s) rfl (ovk 5 s d.n d.s) (K0.keep (S := fun _ => False) (Mod.of_below b6) id) ?_; intro w7 m7 B7)
          go_roundg (8 - 6)
          case measure => omega
          case rel => exact ⟨6, 6, rfl, rfl, by omega, rfl, bel.trans (((below_seq b5 b6).mono bel.size).trans (m7.below (Nat.le_trans bel.size (below_seq b5 b6).size) (fun k hk => by omega))), by rw [HY.out]; exact B7, (K1.keep (S := fun _ => False) (Mod.of_below b6) id).keep m7 (by omega), (K2.keep (S := fun _ => False) (Mod.of_below b6) id).keep m7 (by omega)⟩
        · have hb2 := Bool.eq_false_iff.2 hb
          have hy := ovk_no 5 (by omega) s d.n d.s hb2
          have HY := Lib.hid hy
          rw [hb2] at C
          clear hb hb2 hy
          go_wp2_with (refine ldD rfl (.tmp 3) rfl _ rfl d h1.lies ?_)
          refine (C.out _).mono ?_
          rintro e w5 ⟨rfl, b5⟩
          go_wp2_with fail
          go_roundg (8 - 6)
          case measure => omega
          case rel => exact ⟨6, 6, rfl, rfl, by omega, rfl, bel.trans (b5.mono bel.size), by rw [HY.out]; exact h0.keep (S := fun _ => False) (Mod.of_below b5) id, h1.keep (S := fun _ => False) (Mod.of_below b5) id, h2.keep (S := fun _ => False) (Mod.of_below b5) id⟩
      · obtain rfl : z = 6 := by omega
        clear hz hlt3
        have C := Lib.hid (fun w => rsays6 d w hn)
        by_cases hb : d.n.testBit 6 = true
        · have hy := ovk_yes 6 (by omega) s d.n d.s hb
          have HY := Lib.hid hy
          rw [hb] at C
          clear hb hy
          go_wp2_with (refine ldD rfl (.tmp 3) rfl _ rfl d h1.lies ?_)
          refine (C.out _).mono ?_
          rintro e w5 ⟨rfl, b5⟩
          have K0 := h0.keep (S := fun _ => False) (Mod.of_below b5) id
          have K1 := h1.keep (S := fun _ => False) (Mod.of_below b5) id
          have K2 := h2.keep (S := fun _ => False) (Mod.of_below b5) id
          go_wp2_with (first
            | (refine ldS rfl (.tmp 2) rfl _ rfl (ovk 6 s d.n d.s) K0.lies ?_)
            | (refine ldS rfl (.tmp 14) rfl _ rfl d.s K1.sub ?_))
          refine (rone6 (ovk 6 s d.n d.s) d.s _).mono ?_
          rintro e w6 ⟨rfl, b6⟩
          go_wp2_with (refine stS rfl (.tmp 2) (.tmp 17) rfl rfl _ rfl (put1 6 (ovk 6 s d.n d.s) d.s) rfl (ovk 6 s d.n d.s) (K0.keep (S := fun _ => False) (Mod.of_below b6) id) ?_; intro w7 m7 B7)
          go_roundg (8 - 7)
          case measure => omega
          case rel => exact ⟨7, 7, rfl, rfl, by omega, rfl, bel.trans (((below_seq b5 b6).mono bel.size).trans (m7.below (Nat.le_trans bel.size (below_seq b5 b6).size) (fun k hk => by omega))), by rw [HY.out]; exact B7, (K1.keep (S := fun _ => False) (Mod.of_below b6) id).keep m7 (by omega), (K2.keep (S := fun _ => False) (Mod.of_below b6) id).keep m7 (by omega)⟩
        · have hb2 := Bool.eq_false_iff.2 hb
          have hy := ovk_no 6 (by omega) s d.n d.s hb2
          have HY := Lib.hid hy
          rw [hb2] at C
          clear hb hb2 hy
          go_wp2_with (refine ldD rfl (.tmp 3) rfl _ rfl d h1.lies ?_)
          refine (C.out _).mono ?_
          rintro e w5 ⟨rfl, b5⟩
          go_wp2_with fail
          go_roundg (8 - 7)
          case measure => omega
          case rel => exact ⟨7, 7, rfl, rfl, by omega, rfl, bel.trans (b5.mono bel.size), by rw [HY.out]; exact h0.keep (S := fun _ => False) (Mod.of_below b5) id, h1.keep (S := fun _ => False) (Mod.of_below b5) id, h2.keep (S := fun _ => False) (Mod.of_below b5) id⟩
      · obtain rfl : z = 7 := by omega
        clear hz hlt3
        have C := Lib.hid (fun w => rsays7 d w hn)
        by_cases hb : d.n.testBit 7 = true
        · have hy := ovk_yes 7 (by omega) s d.n d.s hb
          have HY := Lib.hid hy
          rw [hb] at C
          clear hb hy
          go_wp2_with (refine ldD rfl (.tmp 3) rfl _ rfl d h1.lies ?_)
          refine (C.out _).mono ?_
          rintro e w5 ⟨rfl, b5⟩
          have K0 := h0.keep (S := fun _ => False) (Mod.of_below b5) id
          have K1 := h1.keep (S := fun _ => False) (Mod.of_below b5) id
          have K2 := h2.keep (S := fun _ => False) (Mod.of_below b5) id
          go_wp2_with (first
            | (refine ldS rfl (.tmp 2) rfl _ rfl (ovk 7 s d.n d.s) K0.lies ?_)
            | (refine ldS rfl (.tmp 14) rfl _ rfl d.s K1.sub ?_))
          refine (rone7 (ovk 7 s d.n d.s) d.s _).mono ?_
          rintro e w6 ⟨rfl, b6⟩
          go_wp2_with (refine stS rfl (.tmp 2) (.tmp 17) rfl rfl _ rfl (put1 7 (ovk 7 s d.n d.s) d.s) rfl (ovk 7 s d.n d.s) (K0.keep (S := fun _ => False) (Mod.of_below b6) id) ?_; intro w7 m7 B7)
          go_roundg (8 - 8)
          case measure => omega
          case rel => exact ⟨8, 8, rfl, rfl, by omega, rfl, bel.trans (((below_seq b5 b6).mono bel.size).trans (m7.below (Nat.le_trans bel.size (below_seq b5 b6).size) (fun k hk => by omega))), by rw [HY.out]; exact B7, (K1.keep (S := fun _ => False) (Mod.of_below b6) id).keep m7 (by omega), (K2.keep (S := fun _ => False) (Mod.of_below b6) id).keep m7 (by omega)⟩
        · have hb2 := Bool.eq_false_iff.2 hb
          have hy := ovk_no 7 (by omega) s d.n d.s hb2
          have HY := Lib.hid hy
          rw [hb2] at C
          clear hb hb2 hy
          go_wp2_with (refine ldD rfl (.tmp 3) rfl _ rfl d h1.lies ?_)
          refine (C.out _).mono ?_
          rintro e w5 ⟨rfl, b5⟩
          go_wp2_with fail
          go_roundg (8 - 8)
          case measure => omega
          case rel => exact ⟨8, 8, rfl, rfl, by omega, rfl, bel.trans (b5.mono bel.size), by rw [HY.out]; exact h0.keep (S := fun _ => False) (Mod.of_below b5) id, h1.keep (S := fun _ => False) (Mod.of_below b5) id, h2.keep (S := fun _ => False) (Mod.of_below b5) id⟩
    · obtain rfl : k = 8 := by omega
      obtain rfl : z = 8 := by omega
      clear hz hlt3 hk
      have h3 : Blk wr w.heap.size 31 (over s d).cells := h0
      clear h0
      go_wp2_with (first
        | (refine ldS rfl (.tmp 2) rfl _ rfl (over s d) h3.lies ?_)
        | (refine stS rfl (.tmp 4) (.tmp 18) rfl rfl _ rfl (over s d) rfl .zero h2 ?_; intro w6 m6 B6))
      refine bodyPost_ret (v := .agg (over s d).cells) (res_row rfl _ _ g2 31 _ _ rfl B6 uS rfl iS) rfl ⟨rfl, bel.trans (m6.below bel.size (fun k hk => by omega))⟩
end Go.Proofs.YtgpobhnonjdamaaDoor

/- Contracts of the document's CheckDecl and Resolve for layer 6. Condition: a declaration's bits are a 16-bit number. -/
namespace Go.Proofs.YtgpobhnonjdamaaDoor
open Go.ChangeShapes Go.WideShapes Go.ChangeAt Go.RowKit

set_option maxRecDepth 100000 in
set_option maxHeartbeats 2000000 in
theorem rchkd_any (d : Dcl) (w : World) (hn : d.n < 65536) :
    Calls Tryd.prog 54 #[.agg d.cells] w fun e w' => e = .returned (.int .i64 (chkD d)) ∧ Below w.heap.size w w' := by
  have CA : Hid (∀ w, Calls Tryd.prog 66 #[.agg Sty.zero.cells, .agg d.cells] w fun e w' => e = .returned (.agg (over .zero d).cells) ∧ Below w.heap.size w w') := fun w => rover_any .zero d w hn
  have CC := Lib.hid (fun w => rcheck_any d.s w)
  have H1 := Lib.hid (chkD_is d)
  have H2 := Lib.hid (chkD_eq d)
  have H3 := Lib.hid (chkD_high d)
  obtain ⟨o, ho⟩ : ∃ o, over .zero d = o := ⟨_, rfl⟩
  rw [ho] at CA H1 H2
  clear ho
  obtain ⟨c, hc⟩ : ∃ c, chkD d = c := ⟨_, rfl⟩
  rw [hc] at H1 H2 H3 ⊢
  clear hc
  by_cases h255 : d.n ≤ 255
  · have hz : (d.n : Int) ≤ 255 := by omega
    by_cases he : o = d.s
    · have e := H1.out h255 he
      have HNE := Lib.hid (fun w => neS o d.s w true (decide_eq_true he))
      simp only [Bool.not_true] at HNE
      rw [he] at e
      subst e
      clear H1 H2 H3 he
      go_enter Tryd.func54, Tryd.ntmps54
      go_wp2_with (refine bxDV rfl (.tmp 0) rfl d rfl ?_; intro w1 b1 B1)
      refine wp_region_noPanic ?_
      refine wp_region_held_drew (S := fun W => Below w1.heap.size w1 W) (by kernel_rfl) (below_drewN (Below.refl _ _) 1) (fun hHeld => ?_)
      refine wpAnyH_take (i := 0) (v := ?_) (by rw [List.getElem?_toArray]; rfl) (by kernel_rfl) (by kernel_rfl) (by kernel_rfl) (fun _ _ _ h => h) (Or.inl ⟨by rfl, ?_⟩) (by assumption) ?_
      rotate_left
      · intro W hSw
        (try dsimp only at hSw)
        go_simp
        (try with_reducible rfl)
      rotate_left
      (try simp only [Act.put, List.setIfInBounds_toArray, List.set_cons_zero, List.set_cons_succ])
      refine wpAnyH_take (i := 1) (v := ?_) (by rw [List.getElem?_toArray]; rfl) (by kernel_rfl) (by kernel_rfl) (by kernel_rfl) (fun _ _ _ h => h) (Or.inl ⟨by rfl, ?_⟩) (by assumption) ?_
      rotate_left
      · intro W hSw
        (try dsimp only at hSw)
        have cq : W.cell? ⟨w.heap.size, 0, none⟩ = some (.int .u16 d.n) := (B1.keep (S := fun _ => False) (Mod.of_below hSw) id).cell 0
        go_simp
        (try with_reducible rfl)
      rotate_left
      (try simp only [Act.put, List.setIfInBounds_toArray, List.set_cons_zero, List.set_cons_succ])
      refine wpAnyH_take (i := 2) (v := .bool false) (by rw [List.getElem?_toArray]; rfl) (by kernel_rfl) (by kernel_rfl) (by kernel_rfl) (fun _ _ _ h => h) (Or.inl ⟨by rfl, ?_⟩) (by assumption) ?_
      · intro W hSw
        (try dsimp only at hSw)
        go_simp
      (try simp only [Act.put, List.setIfInBounds_toArray, List.set_cons_zero, List.set_cons_succ])
      refine wpAnyH_take (i := 3) (v := ?_) (by rw [List.getElem?_toArray]; rfl) (by kernel_rfl) (by kernel_rfl) (by kernel_rfl) (fun _ _ _ h => h) (Or.inl ⟨by rfl, ?_⟩) (by assumption) ?_
      rotate_left
      · intro W hSw
        (try dsimp only at hSw)
        go_simp
        (try with_reducible rfl)
      rotate_left
      (try simp only [Act.put, List.setIfInBounds_toArray, List.set_cons_zero, List.set_cons_succ])
      refine wpAnyH_take (i := 4) (v := .agg Sty.zero.cells) (by rw [List.getElem?_toArray]; rfl) (by kernel_rfl) (by kernel_rfl) (by kernel_rfl) (fun _ _ _ h => h) (Or.inl ⟨by rfl, ?_⟩) (by assumption) ?_
      · intro W hSw
        (try dsimp only at hSw)
        kernel_rfl
      (try simp only [Act.put, List.setIfInBounds_toArray, List.set_cons_zero, List.set_cons_succ])
      refine wpAnyH_take (i := 5) (v := .agg d.cells) (by rw [List.getElem?_toArray]; rfl) (by kernel_rfl) (by kernel_rfl) (by kernel_rfl) (fun _ _ _ h => h) (Or.inl ⟨by rfl, ?_⟩) (by assumption) ?_
      · intro W hSw
        (try dsimp only at hSw)
        exact rdD (.tmp 1) rfl _ rfl d (B1.keep (S := fun _ => False) (Mod.of_below hSw) id).lies
      (try simp only [Act.put, List.setIfInBounds_toArray, List.set_cons_zero, List.set_cons_succ])
      refine wpAnyH_take (i := 7) (v := ?_) (by rw [List.getElem?_toArray]; rfl) (by kernel_rfl) (by kernel_rfl) (by kernel_rfl) (fun _ _ _ h => h) (Or.inl ⟨by rfl, ?_⟩) (by assumption) ?_
      rotate_left
      · intro W hSw
        (try dsimp only at hSw)
        go_simp
        (try with_reducible rfl)
      rotate_left
      (try simp only [Act.put, List.setIfInBounds_toArray, List.set_cons_zero, List.set_cons_succ])
      refine wpAnyH_take (i := 8) (v := .agg d.s.cells) (by rw [List.getElem?_toArray]; rfl) (by kernel_rfl) (by kernel_rfl) (by kernel_rfl) (fun _ _ _ h => h) (Or.inl ⟨by rfl, ?_⟩) (by assumption) ?_
      · intro W hSw
        (try dsimp only at hSw)
        exact rdS (.tmp 10) rfl _ rfl d.s (B1.keep (S := fun _ => False) (Mod.of_below hSw) id).sub
      (try simp only [Act.put, List.setIfInBounds_toArray, List.set_cons_zero, List.set_cons_succ])
      refine wpAnyH_ready (rs := [6]) (by kernel_rfl) (by simp) ?_
      refine AllReadyH.cons (by rw [List.getElem?_toArray]; rfl) (fun K hK => ?_) AllReadyH.nil
      go_simp
      refine (CA.out _).mono ?_; rintro e w2 ⟨rfl, b2⟩
      refine hK.out _ _ ?_ (fun hHeld => ?_)
      · exact below_seq hHeld b2
      clear hK K
      (try simp only [Act.put, List.setIfInBounds_toArray, List.set_cons_zero, List.set_cons_succ])
      refine wpAnyH_take (i := 9) (v := .bool false) (by rw [List.getElem?_toArray]; rfl) (by kernel_rfl) (by kernel_rfl) (by kernel_rfl) (fun _ _ _ h => h) (Or.inl ⟨by rfl, ?_⟩) (by assumption) ?_
      · intro W hSw
        (try dsimp only at hSw)
        have hne := HNE.out; go_simp
      (try simp only [Act.put, List.setIfInBounds_toArray, List.set_cons_zero, List.set_cons_succ])
      refine wpAnyH_take (i := 10) (v := ?_) (by rw [List.getElem?_toArray]; rfl) (by kernel_rfl) (by kernel_rfl) (by kernel_rfl) (fun _ _ _ h => h) (Or.inl ⟨by rfl, ?_⟩) (by assumption) ?_
      rotate_left
      · intro W hSw
        (try dsimp only at hSw)
        go_simp
        (try with_reducible rfl)
      rotate_left
      (try simp only [Act.put, List.setIfInBounds_toArray, List.set_cons_zero, List.set_cons_succ])
      refine wpAnyH_done (by kernel_rfl) ?_ _
      refine NoPanic.normal ?_
      go_wp2_with (refine ldS rfl (.tmp 14) rfl _ rfl d.s (B1.keep (S := fun _ => False) (Mod.of_below hHeld) id).sub ?_)
      refine (CC.out _).mono ?_
      rintro e w4 ⟨rfl, b4⟩
      go_wp2_with fail
      go_ret
      exact ⟨rfl, below_seq (below_seq b1 hHeld) b4⟩
    · have e := H2.out he
      have HNE := Lib.hid (fun w => neS o d.s w false (decide_eq_false he))
      simp only [Bool.not_false] at HNE
      subst e
      clear H1 H2 H3 he
      go_enter Tryd.func54, Tryd.ntmps54
      go_wp2_with (refine bxDV rfl (.tmp 0) rfl d rfl ?_; intro w1 b1 B1)
      refine wp_region_noPanic ?_
      refine wp_region_held_drew (S := fun W => Below w1.heap.size w1 W) (by kernel_rfl) (below_drewN (Below.refl _ _) 1) (fun hHeld => ?_)
      refine wpAnyH_take (i := 0) (v := ?_) (by rw [List.getElem?_toArray]; rfl) (by kernel_rfl) (by kernel_rfl) (by kernel_rfl) (fun _ _ _ h => h) (Or.inl ⟨by rfl, ?_⟩) (by assumption) ?_
      rotate_left
      · intro W hSw
        (try dsimp only at hSw)
        go_simp
        (try with_reducible rfl)
      rotate_left
      (try simp only [Act.put, List.setIfInBounds_toArray, List.set_cons_zero, List.set_cons_succ])
      refine wpAnyH_take (i := 1) (v := ?_) (by rw [List.getElem?_toArray]; rfl) (by kernel_rfl) (by kernel_rfl) (by kernel_rfl) (fun _ _ _ h => h) (Or.inl ⟨by rfl, ?_⟩) (by assumption) ?_
      rotate_left
      · intro W hSw
        (try dsimp only at hSw)
        have cq : W.cell? ⟨w.heap.size, 0, none⟩ = some (.int .u16 d.n) := (B1.keep (S := fun _ => False) (Mod.of_below hSw) id).cell 0
        go_simp
        (try with_reducible rfl)
      rotate_left
      (try simp only [Act.put, List.setIfInBounds_toArray, List.set_cons_zero, List.set_cons_succ])
      refine wpAnyH_take (i := 2) (v := .bool false) (by rw [List.getElem?_toArray]; rfl) (by kernel_rfl) (by kernel_rfl) (by kernel_rfl) (fun _ _ _ h => h) (Or.inl ⟨by rfl, ?_⟩) (by assumption) ?_
      · intro W hSw
        (try dsimp only at hSw)
        go_simp
      (try simp only [Act.put, List.setIfInBounds_toArray, List.set_cons_zero, List.set_cons_succ])
      refine wpAnyH_take (i := 3) (v := ?_) (by rw [List.getElem?_toArray]; rfl) (by kernel_rfl) (by kernel_rfl) (by kernel_rfl) (fun _ _ _ h => h) (Or.inl ⟨by rfl, ?_⟩) (by assumption) ?_
      rotate_left
      · intro W hSw
        (try dsimp only at hSw)
        go_simp
        (try with_reducible rfl)
      rotate_left
      (try simp only [Act.put, List.setIfInBounds_toArray, List.set_cons_zero, List.set_cons_succ])
      refine wpAnyH_take (i := 4) (v := .agg Sty.zero.cells) (by rw [List.getElem?_toArray]; rfl) (by kernel_rfl) (by kernel_rfl) (by kernel_rfl) (fun _ _ _ h => h) (Or.inl ⟨by rfl, ?_⟩) (by assumption) ?_
      · intro W hSw
        (try dsimp only at hSw)
        kernel_rfl
      (try simp only [Act.put, List.setIfInBounds_toArray, List.set_cons_zero, List.set_cons_succ])
      refine wpAnyH_take (i := 5) (v := .agg d.cells) (by rw [List.getElem?_toArray]; rfl) (by kernel_rfl) (by kernel_rfl) (by kernel_rfl) (fun _ _ _ h => h) (Or.inl ⟨by rfl, ?_⟩) (by assumption) ?_
      · intro W hSw
        (try dsimp only at hSw)
        exact rdD (.tmp 1) rfl _ rfl d (B1.keep (S := fun _ => False) (Mod.of_below hSw) id).lies
      (try simp only [Act.put, List.setIfInBounds_toArray, List.set_cons_zero, List.set_cons_succ])
      refine wpAnyH_take (i := 7) (v := ?_) (by rw [List.getElem?_toArray]; rfl) (by kernel_rfl) (by kernel_rfl) (by kernel_rfl) (fun _ _ _ h => h) (Or.inl ⟨by rfl, ?_⟩) (by assumption) ?_
      rotate_left
      · intro W hSw
        (try dsimp only at hSw)
        go_simp
        (try with_reducible rfl)
      rotate_left
      (try simp only [Act.put, List.setIfInBounds_toArray, List.set_cons_zero, List.set_cons_succ])
      refine wpAnyH_take (i := 8) (v := .agg d.s.cells) (by rw [List.getElem?_toArray]; rfl) (by kernel_rfl) (by kernel_rfl) (by kernel_rfl) (fun _ _ _ h => h) (Or.inl ⟨by rfl, ?_⟩) (by assumption) ?_
      · intro W hSw
        (try dsimp only at hSw)
        exact rdS (.tmp 10) rfl _ rfl d.s (B1.keep (S := fun _ => False) (Mod.of_below hSw) id).sub
      (try simp only [Act.put, List.setIfInBounds_toArray, List.set_cons_zero, List.set_cons_succ])
      refine wpAnyH_ready (rs := [6]) (by kernel_rfl) (by simp) ?_
      refine AllReadyH.cons (by rw [List.getElem?_toArray]; rfl) (fun K hK => ?_) AllReadyH.nil
      go_simp
      refine (CA.out _).mono ?_; rintro e w2 ⟨rfl, b2⟩
      refine hK.out _ _ ?_ (fun hHeld => ?_)
      · exact below_seq hHeld b2
      clear hK K
      (try simp only [Act.put, List.setIfInBounds_toArray, List.set_cons_zero, List.set_cons_succ])
      refine wpAnyH_take (i := 9) (v := .bool true) (by rw [List.getElem?_toArray]; rfl) (by kernel_rfl) (by kernel_rfl) (by kernel_rfl) (fun _ _ _ h => h) (Or.inl ⟨by rfl, ?_⟩) (by assumption) ?_
      · intro W hSw
        (try dsimp only at hSw)
        have hne := HNE.out; go_simp
      (try simp only [Act.put, List.setIfInBounds_toArray, List.set_cons_zero, List.set_cons_succ])
      refine wpAnyH_take (i := 10) (v := ?_) (by rw [List.getElem?_toArray]; rfl) (by kernel_rfl) (by kernel_rfl) (by kernel_rfl) (fun _ _ _ h => h) (Or.inl ⟨by rfl, ?_⟩) (by assumption) ?_
      rotate_left
      · intro W hSw
        (try dsimp only at hSw)
        go_simp
        (try with_reducible rfl)
      rotate_left
      (try simp only [Act.put, List.setIfInBounds_toArray, List.set_cons_zero, List.set_cons_succ])
      refine wpAnyH_done (by kernel_rfl) ?_ _
      refine NoPanic.normal ?_
      go_wp2_with fail
      go_ret
      exact ⟨rfl, below_seq b1 hHeld⟩
  · have e := H3.out h255
    have hz : 255 < (d.n : Int) := by omega
    subst e
    clear H1 H2 H3
    go_enter Tryd.func54, Tryd.ntmps54
    go_wp2_with (refine bxDV rfl (.tmp 0) rfl d rfl ?_; intro w1 b1 B1)
    refine wp_region_noPanic ?_
    refine wp_region_held_drew (S := fun W => Below w1.heap.size w1 W) (by kernel_rfl) (below_drewN (Below.refl _ _) 1) (fun hHeld => ?_)
    refine wpAnyH_take (i := 0) (v := ?_) (by rw [List.getElem?_toArray]; rfl) (by kernel_rfl) (by kernel_rfl) (by kernel_rfl) (fun _ _ _ h => h) (Or.inl ⟨by rfl, ?_⟩) (by assumption) ?_
    rotate_left
    · intro W hSw
      (try dsimp only at hSw)
      go_simp
      (try with_reducible rfl)
    rotate_left
    (try simp only [Act.put, List.setIfInBounds_toArray, List.set_cons_zero, List.set_cons_succ])
    refine wpAnyH_take (i := 1) (v := ?_) (by rw [List.getElem?_toArray]; rfl) (by kernel_rfl) (by kernel_rfl) (by kernel_rfl) (fun _ _ _ h => h) (Or.inl ⟨by rfl, ?_⟩) (by assumption) ?_
    rotate_left
    · intro W hSw
      (try dsimp only at hSw)
      have cq : W.cell? ⟨w.heap.size, 0, none⟩ = some (.int .u16 d.n) := (B1.keep (S := fun _ => False) (Mod.of_below hSw) id).cell 0
      go_simp
      (try with_reducible rfl)
    rotate_left
    (try simp only [Act.put, List.setIfInBounds_toArray, List.set_cons_zero, List.set_cons_succ])
    refine wpAnyH_take (i := 2) (v := .bool true) (by rw [List.getElem?_toArray]; rfl) (by kernel_rfl) (by kernel_rfl) (by kernel_rfl) (fun _ _ _ h => h) (Or.inl ⟨by rfl, ?_⟩) (by assumption) ?_
    · intro W hSw
      (try dsimp only at hSw)
      go_simp
    (try simp only [Act.put, List.setIfInBounds_toArray, List.set_cons_zero, List.set_cons_succ])
    refine wpAnyH_take (i := 3) (v := ?_) (by rw [List.getElem?_toArray]; rfl) (by kernel_rfl) (by kernel_rfl) (by kernel_rfl) (fun _ _ _ h => h) (Or.inl ⟨by rfl, ?_⟩) (by assumption) ?_
    rotate_left
    · intro W hSw
      (try dsimp only at hSw)
      go_simp
      (try with_reducible rfl)
    rotate_left
    (try simp only [Act.put, List.setIfInBounds_toArray, List.set_cons_zero, List.set_cons_succ])
    refine wpAnyH_take (i := 4) (v := undef) (by rw [List.getElem?_toArray]; rfl) (by kernel_rfl) (by kernel_rfl) (by kernel_rfl) (fun _ _ _ h => h) (Or.inr ⟨by kernel_rfl, rfl⟩) (by assumption) ?_
    (try simp only [Act.put, List.setIfInBounds_toArray, List.set_cons_zero, List.set_cons_succ])
    refine wpAnyH_take (i := 5) (v := undef) (by rw [List.getElem?_toArray]; rfl) (by kernel_rfl) (by kernel_rfl) (by kernel_rfl) (fun _ _ _ h => h) (Or.inr ⟨by kernel_rfl, rfl⟩) (by assumption) ?_
    (try simp only [Act.put, List.setIfInBounds_toArray, List.set_cons_zero, List.set_cons_succ])
    refine wpAnyH_take (i := 6) (v := undef) (by rw [List.getElem?_toArray]; rfl) (by kernel_rfl) (by kernel_rfl) (by kernel_rfl) (fun _ _ _ h => h) (Or.inr ⟨by kernel_rfl, rfl⟩) (by assumption) ?_
    (try simp only [Act.put, List.setIfInBounds_toArray, List.set_cons_zero, List.set_cons_succ])
    refine wpAnyH_take (i := 7) (v := undef) (by rw [List.getElem?_toArray]; rfl) (by kernel_rfl) (by kernel_rfl) (by kernel_rfl) (fun _ _ _ h => h) (Or.inr ⟨by kernel_rfl, rfl⟩) (by assumption) ?_
    (try simp only [Act.put, List.setIfInBounds_toArray, List.set_cons_zero, List.set_cons_succ])
    refine wpAnyH_take (i := 8) (v := undef) (by rw [List.getElem?_toArray]; rfl) (by kernel_rfl) (by kernel_rfl) (by kernel_rfl) (fun _ _ _ h => h) (Or.inr ⟨by kernel_rfl, rfl⟩) (by assumption) ?_
    (try simp only [Act.put, List.setIfInBounds_toArray, List.set_cons_zero, List.set_cons_succ])
    refine wpAnyH_take (i := 9) (v := undef) (by rw [List.getElem?_toArray]; rfl) (by kernel_rfl) (by kernel_rfl) (by kernel_rfl) (fun _ _ _ h => h) (Or.inr ⟨by kernel_rfl, rfl⟩) (by assumption) ?_
    (try simp only [Act.put, List.setIfInBounds_toArray, List.set_cons_zero, List.set_cons_succ])
    refine wpAnyH_take (i := 10) (v := ?_) (by rw [List.getElem?_toArray]; rfl) (by kernel_rfl) (by kernel_rfl) (by kernel_rfl) (fun _ _ _ h => h) (Or.inl ⟨by rfl, ?_⟩) (by assumption) ?_
    rotate_left
    · intro W hSw
      (try dsimp only at hSw)
      go_simp
      (try with_reducible rfl)
    rotate_left
    (try simp only [Act.put, List.setIfInBounds_toArray, List.set_cons_zero, List.set_cons_succ])
    refine wpAnyH_done (by kernel_rfl) ?_ _
    refine NoPanic.normal ?_
    go_wp2_with fail
    go_ret
    exact ⟨rfl, below_seq b1 hHeld⟩

end Go.Proofs.YtgpobhnonjdamaaDoor

/- Contract of the document's At for layer 6: each part of the nearest node that says it. Conditions: the lists lie where the slices say, at most 1000 elements each, as many parents as declarations, each parent below its node; bits are 16-bit numbers. -/
namespace Go.Proofs.YtgpobhnonjdamaaDoor
open Go.ChangeShapes Go.WideShapes Go.ChangeAt Go.RowKit

theorem rsays_any (i : Nat) (hi : i < 8) (d : Dcl) (w : World) (hn : d.n < 65536) :
    Calls Tryd.prog 67 #[.agg d.cells, .int .i64 (i : Int)] w fun e w' => e = .returned (.bool (d.n.testBit i)) ∧ Below w.heap.size w w' :=
  eight (p := fun i => Calls Tryd.prog 67 #[.agg d.cells, .int .i64 (i : Int)] w fun e w' => e = .returned (.bool (d.n.testBit i)) ∧ Below w.heap.size w w') (rsays0 d w hn) (rsays1 d w hn) (rsays2 d w hn) (rsays3 d w hn) (rsays4 d w hn) (rsays5 d w hn) (rsays6 d w hn) (rsays7 d w hn) i hi
theorem rone_any (i : Nat) (hi : i < 8) (s d : Sty) (w : World) :
    Calls Tryd.prog 68 #[.agg s.cells, .agg d.cells, .int .i64 (i : Int)] w fun e w' => e = .returned (.agg (put1 i s d).cells) ∧ Below w.heap.size w w' :=
  eight (p := fun i => Calls Tryd.prog 68 #[.agg s.cells, .agg d.cells, .int .i64 (i : Int)] w fun e w' => e = .returned (.agg (put1 i s d).cells) ∧ Below w.heap.size w w') (rone0 s d w) (rone1 s d w) (rone2 s d w) (rone3 s d w) (rone4 s d w) (rone5 s d w) (rone6 s d w) (rone7 s d w) i hi

set_option maxRecDepth 100000 in
set_option maxHeartbeats 8000000 in
theorem rat_any (base : Sty) (pv lv : Value) (ps : List Int) (ds : List Dcl) (i : Nat) (w : World) (hP : Row (fun _ => False) w pv (ps.map (Value.int .i64))) (hD : Ds w lv ds) (h16 : Wf16 ds) (hlen : ps.length = ds.length) (hok : okP ps) (hi : i < ds.length) :
    Calls Tryd.prog 55 #[.agg base.cells, pv, lv, .int .i64 (i : Int)] w fun e w' => e = .returned (.agg ((styK base ps ds ds.length).getD i .zero).cells) ∧ Below w.heap.size w w' := by
  have HP := Lib.hid hP
  have HD := Lib.hid hD
  have H16 := Lib.hid h16
  have HOK := Lib.hid hok
  have HS := Lib.hid (fun q (hq : q < ds.length) => styK_at base ps ds ds.length hok (by omega) q hq)
  obtain ⟨A, c, rfl⟩ := hP.form
  obtain ⟨B, c2, rfl⟩ := hD.form
  rw [List.length_map] at HP ⊢
  obtain ⟨n, hl⟩ : ∃ n, ds.length = n := ⟨_, rfl⟩
  have hm : ps.length = n := hlen.trans hl
  have HL := Lib.hid hl
  have HM := Lib.hid hm
  rw [hl] at hi HD HS ⊢
  rw [hm] at HP ⊢
  obtain ⟨LL, hLL⟩ : ∃ LL, styK base ps ds n = LL := ⟨_, rfl⟩
  rw [hLL] at HS ⊢
  obtain ⟨T, hT⟩ : ∃ T, LL.getD i .zero = T := ⟨_, rfl⟩
  have HT0 : Hid (upV base LL (i : Int) = T) := by
    show _ = _
    unfold upV
    rw [if_pos (by omega), Int.toNat_natCast, hT]
  rw [hT]
  have hm1 : Hid (upV base LL (-1) = base) := by
    show _ = _
    unfold upV
    rw [if_neg (by omega)]
  clear hP hD h16 hlen hok hl hm hLL hT
  go_enter Tryd.func55, Tryd.ntmps55
  go_wp2_with (first
    | (refine bxSV rfl (.tmp 0) rfl base rfl ?_; intro w1 b1 B1)
    | (refine alSV (o := ⟨some 8, _, _, _, _, _⟩) rfl rfl ?_; intro w2 b2 B2)
    | (refine ldS rfl (.tmp 4) rfl _ rfl base (Blk.lies (B1.keep (S := fun _ => False) (Mod.of_below b2) id)) ?_)
    | (refine nwS rfl rfl 9 rfl rfl (.tmp 12) rfl rfl base (fun _ => rfl) (fun _ => rfl) ?_; intro w3 b3 B3))
  have hg8 : w.heap.size ≤ w1.heap.size := b1.size
  have hlt8 : w1.heap.size < w2.heap.size := B2.lt
  have b03 := below_seq (below_seq b1 b2) b3
  have A8 := B2.keep (S := fun _ => False) (Mod.of_below b3) id
  have A9 : Blk w3 w2.heap.size 31 (ovk 0 base 255 T).cells := ovk_zero base 255 T ▸ B3
  clear b1 B1 b2 B2 b3 B3
  obtain ⟨g8, hq8⟩ : ∃ g, w1.heap.size = g := ⟨_, rfl⟩
  obtain ⟨g9, hq9⟩ : ∃ g, w2.heap.size = g := ⟨_, rfl⟩
  rw [hq8] at hg8 hlt8 A8 ⊢
  rw [hq9] at hlt8 A9 ⊢
  clear hq8 hq9
  go_loopg [10] 8 (fun kx s10 wr => ∃ j : Nat, s10 = .int .i64 j ∧ j ≤ 8 ∧ kx = 8 - j ∧ Below w.heap.size w wr ∧ Blk wr g8 31 Sty.zero.cells ∧ Blk wr g9 31 (ovk j base 255 T).cells)
  case atStart => exact ⟨0, rfl, by omega, rfl, b03, A8, A9⟩
  case round =>
    obtain ⟨j, rfl, hj, rfl, belo, h8, h9⟩ := hrel
    clear A8 A9 b03
    obtain ⟨wo, rfl⟩ : ∃ wo : World, wo = wr := ⟨_, rfl⟩
    by_cases hj8 : j < 8
    · have hjz : (j : Int) < 8 := by omega
      have hrs := belo.size
      have H9 := Lib.hid h9
      have H8 := Lib.hid h8
      clear h8 h9
      go_wp2_with fail
      go_loopg [11] (i + 1) (fun kx2 s11 wi => ∃ z : Int, s11 = .int .i64 z ∧ -1 ≤ z ∧ z ≤ i ∧ kx2 = (z + 1).toNat ∧ Below wo.heap.size wo wi ∧ Hid (∀ X, put1 j X T = put1 j X (upV base LL z)))
      case atStart => exact ⟨i, rfl, by omega, by omega, by omega, Below.refl _ _, Lib.hid (fun X => by rw [HT0.out])⟩
      case round =>
        obtain ⟨z, rfl, hz1, hz2, rfl, beli, HT⟩ := hrel
        obtain ⟨wi, rfl⟩ : ∃ wi : World, wi = wr := ⟨_, rfl⟩
        have hrs2 := beli.size
        by_cases h0 : 0 ≤ z
        · obtain ⟨q, rfl⟩ : ∃ q : Nat, z = q := ⟨z.toNat, by omega⟩
          have hqn : q < n := by omega
          have hqz : (q : Int) < n := by omega
          have hkl : q < ds.length := by rw [HL.out]; exact hqn
          have hkp : q < ps.length := by rw [HM.out]; exact hqn
          have hstep := HS.out q hqn
          obtain ⟨d, hd⟩ : ∃ d, ds.getD q .zero = d := ⟨_, rfl⟩
          have hdk := getD_of Dcl.zero hkl
          have hd16 := H16.out q hkl
          obtain ⟨p, hp⟩ : ∃ p, ps.getD q 0 = p := ⟨_, rfl⟩
          have hpk := getD_of (0 : Int) hkp
          have hpr := HOK.out q hkp
          rw [hd] at hdk hd16 hstep
          rw [hp] at hpk hpr hstep
          obtain ⟨q1, q2⟩ := hpr
          have hup : upV base LL (q : Int) = over (upV base LL p) d := by
            rw [← hstep]
            unfold upV
            rw [if_pos h0, Int.toNat_natCast]
          obtain ⟨a2, cap2, o, hv, hab, ha, hL⟩ := HD.out.get (belo.trans (beli.mono hrs)) hdk
          injection hv with hv1 hv2 hv3
          subst hv1 hv3
          obtain ⟨a1, cap1, hv, hab1, _, hcell⟩ := HP.out.at_ (by simp; omega)
          injection hv with hv1 hv4 hv3
          subst hv1 hv3
          have hc0 : w.cell? (a1.add q) = some (.int .i64 p) := hcell q _ (by rw [List.getElem?_map, hpk]; rfl)
          have hab1' : (a1.add q).block < w.heap.size := by rw [block_of_add]; exact hab1
          have HC0 := Lib.hid hc0
          have HUP := Lib.hid hup
          have CS := Lib.hid (fun w => rsays_any j hj8 d w hd16)
          clear hv2 hv4 hcell hdk hpk hkl hkp hd hp hc0 hstep hup
          by_cases hb : d.n.testBit j = true
          · have CO := Lib.hid (fun w => rone_any j hj8 (ovk j base 255 T) d.s w)
            have HO : Hid (ovk (j + 1) base 255 T = put1 j (ovk j base 255 T) d.s) := by
              show _ = _
              rw [mix_step j hj8, HT.out, HUP.out, put1_over_yes j hj8 _ _ d hb]
            rw [hb] at CS
            clear hb hd16 q1 q2
            go_wp2_with (refine ldDIf (by kernel_rfl) (.tmp 23) rfl _ rfl d (ha ▸ hL) ?_)
            refine (CS.out _).mono ?_
            rintro e w5 ⟨rfl, b5⟩
            have b15 := below_seq beli b5
            have L9 := H9.out.keep (S := fun _ => False) (Mod.of_below b15) id
            have L8 := H8.out.keep (S := fun _ => False) (Mod.of_below b15) id
            have hL5 := hL.below b5
            go_wp2_with fail
            refine region_tail (by kernel_rfl) (fun W => Below w5.heap.size w5 W) (below_drewN (Below.refl _ _) 1) 8 (by rfl) (by kernel_rfl) (by kernel_rfl) (fun R hR => ?_)
            refine AllS.take (i := 0) (v := .agg (ovk j base 255 T).cells) (by rw [List.getElem?_toArray]; rfl) (by kernel_rfl) (by kernel_rfl) (by kernel_rfl) (KeepsIf.read (by rfl) (fun W hSw => ?_)) ?_
            · (try dsimp only at hSw)
              exact rdS (.tmp 9) rfl _ rfl _ (L9.keep (S := fun _ => False) (Mod.of_below hSw) id).lies
            (try simp only [Act.put, List.setIfInBounds_toArray, List.set_cons_zero, List.set_cons_succ])
            refine AllS.take (i := 1) (v := ?_) (by rw [List.getElem?_toArray]; rfl) (by kernel_rfl) (by kernel_rfl) (by kernel_rfl) (KeepsIf.read (by rfl) ?_) ?_
            rotate_left
            · intro W hSw
              (try dsimp only at hSw)
              go_simp
              (try with_reducible rfl)
            rotate_left
            (try simp only [Act.put, List.setIfInBounds_toArray, List.set_cons_zero, List.set_cons_succ])
            refine AllS.take (i := 2) (v := ?_) (by rw [List.getElem?_toArray]; rfl) (by kernel_rfl) (by kernel_rfl) (by kernel_rfl) (KeepsIf.read (by rfl) ?_) ?_
            rotate_left
            · intro W hSw
              (try dsimp only at hSw)
              go_simp
              (try with_reducible rfl)
            rotate_left
            (try simp only [Act.put, List.setIfInBounds_toArray, List.set_cons_zero, List.set_cons_succ])
            refine AllS.take (i := 3) (v := ?_) (by rw [List.getElem?_toArray]; rfl) (by kernel_rfl) (by kernel_rfl) (by kernel_rfl) (KeepsIf.read (by rfl) ?_) ?_
            rotate_left
            · intro W hSw
              (try dsimp only at hSw)
              go_simp
              (try with_reducible rfl)
            rotate_left
            (try simp only [Act.put, List.setIfInBounds_toArray, List.set_cons_zero, List.set_cons_succ])
            refine AllS.take (i := 4) (v := ?_) (by rw [List.getElem?_toArray]; rfl) (by kernel_rfl) (by kernel_rfl) (by kernel_rfl) (KeepsIf.read (by rfl) ?_) ?_
            rotate_left
            · intro W hSw
              (try dsimp only at hSw)
              go_simp
              (try with_reducible rfl)
            rotate_left
            (try simp only [Act.put, List.setIfInBounds_toArray, List.set_cons_zero, List.set_cons_succ])
            refine AllS.take (i := 5) (v := .agg d.s.cells) (by rw [List.getElem?_toArray]; rfl) (by kernel_rfl) (by kernel_rfl) (by kernel_rfl) (KeepsIf.read (by rfl) (fun W hSw => ?_)) ?_
            · (try dsimp only at hSw)
              exact rdS (.tmp 39) rfl _ rfl d.s (hL5.below hSw).sub
            (try simp only [Act.put, List.setIfInBounds_toArray, List.set_cons_zero, List.set_cons_succ])
            refine AllS.take (i := 6) (v := ?_) (by rw [List.getElem?_toArray]; rfl) (by kernel_rfl) (by kernel_rfl) (by kernel_rfl) (KeepsIf.read (by rfl) ?_) ?_
            rotate_left
            · intro W hSw
              (try dsimp only at hSw)
              go_simp
              (try with_reducible rfl)
            rotate_left
            (try simp only [Act.put, List.setIfInBounds_toArray, List.set_cons_zero, List.set_cons_succ])
            refine AllS.take (i := 7) (v := .agg (put1 j (ovk j base 255 T) d.s).cells) (by rw [List.getElem?_toArray]; rfl) (by kernel_rfl) (by kernel_rfl) (by kernel_rfl) (KeepsIf.call 68 #[.agg (ovk j base 255 T).cells, .agg d.s.cells, .int .i64 (j : Int)] (by kernel_rfl) (fun W => ?_) (fun W hSw => ?_)) ?_
            · go_simp
            · exact (CO.out W).mono (fun e w' h => ⟨h.1, below_seq hSw h.2⟩)
            (try simp only [Act.put, List.setIfInBounds_toArray, List.set_cons_zero, List.set_cons_succ])
            refine AllS.done (by kernel_rfl) (hR.out _ ?_) _
            clear hR R
            intro w6 b6
            refine wpOp_of_wp (by rw [List.getElem?_toArray]; rfl) rfl ?_
            have M9 := L9.keep (S := fun _ => False) (Mod.of_below b6) id
            have M8 := L8.keep (S := fun _ => False) (Mod.of_below b6) id
            have b16 := below_seq b15 b6
            refine wp_storeL 31 (.tmp 9) (.tmp 42) rfl rfl g9 rfl (put1 j (ovk j base 255 T) d.s).cells rfl 31 _ M9 iS rfl (one23 _) ?_
            intro w7 m7 B7
            go_wp2_with fail
            go_roundg (8 - (j + 1))
            case measure => omega
            case rel => exact ⟨j + 1, by go_num, by omega, rfl, belo.trans ((b16.mono hrs).trans (m7.below (Nat.le_trans hrs b16.size) (fun k hk => by omega))), M8.keep m7 (by omega), by rw [HO.out]; exact B7⟩
          · have hb2 := Bool.eq_false_iff.2 hb
            have HN : Hid (∀ X, put1 j X T = put1 j X (upV base LL p)) := fun X => by rw [HT.out, HUP.out, put1_over_no j hj8 _ _ d hb2]
            rw [hb2] at CS
            clear hb hb2 hd16
            go_wp2_with (refine ldDIf (by kernel_rfl) (.tmp 23) rfl _ rfl d (ha ▸ hL) ?_)
            refine (CS.out _).mono ?_
            rintro e w5 ⟨rfl, b5⟩
            have b15 := below_seq beli b5
            have cp : w5.cell? (a1.add q) = some (.int .i64 p) := ((belo.trans (b15.mono hrs)).cell hab1').trans HC0.out
            go_wp2_with fail
            go_roundg ((p + 1).toNat)
            case measure => omega
            case rel => exact ⟨p, rfl, by omega, by omega, rfl, b15, HN⟩
        · obtain rfl : z = -1 := by omega
          have HO : Hid (ovk (j + 1) base 255 T = ovk j base 255 T) := by
            show _ = _
            rw [mix_step j hj8, HT.out, hm1.out, mix_base j hj8]
          clear h0 hz1 hz2
          go_wp2_with fail
          go_roundg (8 - (j + 1))
          case measure => omega
          case rel => exact ⟨j + 1, by go_num, by omega, rfl, belo.trans (beli.mono hrs), H8.out.keep (S := fun _ => False) (Mod.of_below beli) id, by rw [HO.out]; exact H9.out.keep (S := fun _ => False) (Mod.of_below beli) id⟩
    · obtain rfl : j = 8 := by omega
      rw [mix_eight] at h9
      clear hj hj8
      go_wp2_with (first
        | (refine ldS rfl (.tmp 9) rfl _ rfl T h9.lies ?_)
        | (refine stS rfl (.tmp 8) (.tmp 43) rfl rfl _ rfl T rfl .zero h8 ?_; intro w6 m6 B6))
      refine bodyPost_ret (v := .agg T.cells) (res_row rfl _ _ g8 31 _ _ rfl B6 uS rfl iS) rfl ⟨rfl, belo.trans (m6.below belo.size (fun k hk => by omega))⟩
end Go.Proofs.YtgpobhnonjdamaaDoor

/- Contract of the document's Styles for layer 6. Conditions: the lists lie where the slices say, at most 900 elements each; bits are 16-bit numbers. -/
namespace Go.Proofs.YtgpobhnonjdamaaDoor
open Go.ChangeShapes Go.WideShapes Go.ChangeAt Go.RowKit

set_option maxRecDepth 100000 in
set_option maxHeartbeats 8000000 in
theorem rstyles_any (base : Sty) (pv lv : Value) (ps : List Int) (ds : List Dcl) (w : World) (hP : Row (fun _ => False) w pv (ps.map (Value.int .i64))) (hD : Ds w lv ds) (h16 : Wf16 ds) (hn1 : ps.length ≤ 900) (hn2 : ds.length ≤ 900) :
    Calls Tryd.prog 41 #[.agg base.cells, pv, lv] w (StyPost w base ps ds) := by
  have HP := Lib.hid hP
  have HD := Lib.hid hD
  have H16 := Lib.hid h16
  have CC := Lib.hid (fun w => rcheck_any base w)
  have CAT : Hid (∀ (W : World) (i : Nat), Below w.heap.size w W → ps.length = ds.length → okP ps → i < ds.length → Calls Tryd.prog 55 #[.agg base.cells, pv, lv, .int .i64 (i : Int)] W fun e w' => e = .returned (.agg ((styK base ps ds ds.length).getD i .zero).cells) ∧ Below W.heap.size W w') := fun W i hW h1 h2 h3 => rat_any base pv lv ps ds i W (hP.below hW) (hD.below hW) h16 h1 h2 h3
  obtain ⟨A, c, rfl⟩ := hP.form
  obtain ⟨B, c2, rfl⟩ := hD.form
  rw [List.length_map] at HP CAT ⊢
  have R0 : Hid (¬ (ps.length = ds.length ∧ okP ps) → StyRes base ps ds 2 []) := fun h => .inl ⟨h, rfl, rfl⟩
  have R1 : Hid (ps.length = ds.length → okP ps → ¬ (vld base = true ∧ okD ds) → StyRes base ps ds 60 []) := fun h1 h2 h => .inr (.inl ⟨⟨h1, h2⟩, h, rfl, rfl⟩)
  have R2 : Hid (ps.length = ds.length → okP ps → vld base = true → okD ds → StyRes base ps ds 0 (styK base ps ds ds.length)) := fun h1 h2 h3 h4 => .inr (.inr ⟨⟨h1, h2⟩, ⟨h3, h4⟩, rfl, rfl⟩)
  obtain ⟨n, hl⟩ : ∃ n, ds.length = n := ⟨_, rfl⟩
  obtain ⟨m, hm⟩ : ∃ m, ps.length = m := ⟨_, rfl⟩
  have HL := Lib.hid hl
  have HM := Lib.hid hm
  rw [hl] at hn2 HD CAT R0 R1 R2 ⊢
  rw [hm] at hn1 HP CAT R0 R1 R2 ⊢
  clear hP hD h16 hl hm
  by_cases hnm : m = n
  · subst hnm
    have R0' : Hid (¬ okP ps → StyRes base ps ds 2 []) := fun h => R0.out (fun h2 => h h2.2)
    have R1' : Hid (okP ps → ¬ (vld base = true ∧ okD ds) → StyRes base ps ds 60 []) := fun h => R1.out rfl h
    have R2' : Hid (okP ps → vld base = true → okD ds → StyRes base ps ds 0 (styK base ps ds m)) := fun h => R2.out rfl h
    have CA1 : Hid (okP ps → ∀ (W : World) (i : Nat), Below w.heap.size w W → i < m → Calls Tryd.prog 55 #[.agg base.cells, .slice A m c, .slice B m c2, .int .i64 (i : Int)] W fun e w' => e = .returned (.agg ((styK base ps ds m).getD i .zero).cells) ∧ Below W.heap.size W w') := fun ho W i hW hi => CAT.out W i hW rfl ho hi
    clear R0 R1 R2 CAT
    go_enter Tryd.func41, Tryd.ntmps41
    go_wp2_with (refine bxSV rfl (.tmp 0) rfl base rfl ?_; intro w1 b1 B1)
    go_loopg [8] m (fun kx s8 wr => w1 = wr ∧ ∃ k : Nat, s8 = .int .i64 k ∧ k ≤ m ∧ kx = m - k ∧ Hid (∀ i, i < k → -1 ≤ ps.getD i 0 ∧ ps.getD i 0 < i))
    case atStart => exact ⟨rfl, 0, rfl, by omega, rfl, Lib.hid (fun i hi => by omega)⟩
    case round =>
      obtain ⟨rfl, k, rfl, hk, rfl, HK⟩ := hrel
      by_cases hlt : k < m
      · have hkl : k < ps.length := by rw [HM.out]; exact hlt
        have hz : (k : Int) < m := by omega
        obtain ⟨p, hp⟩ : ∃ p, ps.getD k 0 = p := ⟨_, rfl⟩
        have hpk := getD_of (0 : Int) hkl
        rw [hp] at hpk
        obtain ⟨a, cap2, hv, hab, _, hcell⟩ := HP.out.at_ (by simp; omega)
        injection hv with hv1 hv2 hv3
        subst hv1 hv3
        have hc0 : w.cell? (a.add k) = some (.int .i64 p) := hcell k _ (by rw [List.getElem?_map, hpk]; rfl)
        have hc : w1.cell? (a.add k) = some (.int .i64 p) := (b1.cell (by rw [block_of_add]; exact hab)).trans hc0
        have HPP := Lib.hid hp
        clear hv2 hcell hpk hkl hp hc0
        have bad : Hid (¬ (-1 ≤ p ∧ p < k) → ¬ okP ps) := fun hn h => hn (by
          have := h k (by rw [HM.out]; exact hlt)
          rw [HPP.out] at this
          exact this)
        by_cases h1 : p < -1
        · have RR := Lib.hid (R0'.out (bad.out (by omega)))
          clear R0' R1' R2' CA1 bad
          go_wp2_with fail
          go_ret2
          exact StyPost.bad RR.out b1
        · by_cases h2 : p < k
          · have h3 : -1 ≤ p := by omega
            clear h1
            go_wp2_with fail
            go_roundg (m - (k + 1))
            case measure => omega
            case rel => exact ⟨rfl, k + 1, by go_num, by omega, rfl, Lib.hid (upto_succ (p := fun i => -1 ≤ ps.getD i 0 ∧ ps.getD i 0 < i) HK.out (by rw [HPP.out]; exact ⟨h3, h2⟩))⟩
          · have h3 : -1 ≤ p := by omega
            have h4 : (k : Int) ≤ p := by omega
            have RR := Lib.hid (R0'.out (bad.out (by omega)))
            clear h1 h2 R0' R1' R2' CA1 bad
            go_wp2_with fail
            go_ret2
            exact StyPost.bad RR.out b1
      · obtain rfl : k = m := by omega
        have HOK : Hid (okP ps) := fun i hi => HK.out i (by rw [← HM.out]; exact hi)
        have R1' := Lib.hid (R1'.out HOK.out)
        have R2' := Lib.hid (R2'.out HOK.out)
        have CA2 := Lib.hid (CA1.out HOK.out)
        clear R0' CA1 hlt hk HK HOK
        rcases chk_cases base with ⟨hv, hc⟩ | ⟨hv, hc⟩
        · rw [hc] at CC
          have HV := Lib.hid hv
          clear hv hc
          go_wp2_with (refine ldS rfl (.tmp 3) rfl _ rfl base B1.lies ?_)
          refine (CC.out _).mono ?_
          rintro e w2 ⟨rfl, b2⟩
          have b12 := below_seq b1 b2
          have B2 := B1.keep (S := fun _ => False) (Mod.of_below b2) id
          clear B1 b1 b2 CC
          go_wp2_with fail
          go_loopg [9] k (fun kx s9 wr => ∃ j : Nat, s9 = .int .i64 j ∧ j ≤ k ∧ kx = k - j ∧ Below w.heap.size w wr ∧ Blk wr w.heap.size 31 base.cells ∧ Hid (∀ i, i < j → vldD (ds.getD i .zero) = true))
          case atStart => exact ⟨0, rfl, by omega, rfl, b12, B2, Lib.hid (fun i hi => by omega)⟩
          case round =>
            obtain ⟨j, rfl, hj, rfl, bel, hB, HK⟩ := hrel
            clear B2 b12
            obtain ⟨wo, rfl⟩ : ∃ wo : World, wo = wr := ⟨_, rfl⟩
            by_cases hlt : j < k
            · have hkl : j < ds.length := by rw [HL.out]; exact hlt
              have hz : (j : Int) < k := by omega
              obtain ⟨d, hd⟩ : ∃ d, ds.getD j .zero = d := ⟨_, rfl⟩
              have hdk := getD_of Dcl.zero hkl
              have hd16 := H16.out j hkl
              rw [hd] at hdk hd16
              have C := Lib.hid (fun w => rchkd_any d w hd16)
              obtain ⟨a, cap2, o, hv, hab, ha, hL⟩ := HD.out.get bel hdk
              injection hv with hv1 hv2 hv3
              subst hv1 hv3
              have HDD := Lib.hid hd
              have HKL := Lib.hid hkl
              clear hv2 hdk hkl hd hd16
              rcases chkD_cases d with ⟨hv, hc⟩ | ⟨hv, hc⟩
              · rw [hc] at C
                have HVD := Lib.hid hv
                clear hv hc
                go_wp2_with (refine ldD rfl (.tmp 47) rfl _ rfl d (ha ▸ hL) ?_)
                refine (C.out _).mono ?_
                rintro e w3 ⟨rfl, b3⟩
                go_wp2_with fail
                go_roundg (k - (j + 1))
                case measure => omega
                case rel => exact ⟨j + 1, by go_num, by omega, rfl, bel.trans (b3.mono bel.size), hB.keep (S := fun _ => False) (Mod.of_below b3) id, Lib.hid (upto_succ (p := fun i => vldD (ds.getD i .zero) = true) HK.out (by rw [HDD.out]; exact HVD.out))⟩
              · rw [hc] at C
                have RR := Lib.hid (R1'.out (fun h => by
                  have := h.2 j HKL.out
                  rw [HDD.out, hv] at this
                  cases this))
                clear hv hc R1' R2'
                go_wp2_with (refine ldD rfl (.tmp 47) rfl _ rfl d (ha ▸ hL) ?_)
                refine (C.out _).mono ?_
                rintro e w3 ⟨rfl, b3⟩
                go_wp2_with fail
                go_ret2
                exact StyPost.bad RR.out (bel.trans (b3.mono bel.size))
            · obtain rfl : j = k := by omega
              have RR := Lib.hid (R2'.out HV.out (fun i hi => HK.out i (by rw [← HL.out]; exact hi)))
              clear R1' R2' hlt hj HK HV
              have hrs := bel.size
              go_wp2_with fail
              go_loopg [10, 11] j (fun kx s10 s11 wr => ∃ (i : Nat) (v0 : Value), s11 = .int .i64 i ∧ v0 = s10 ∧ i ≤ j ∧ kx = j - i ∧ Below w.heap.size w wr ∧ Blk wr w.heap.size 31 base.cells ∧ wr.ownsRow (w.heap.size + 1) 31 9 v0 i (flatS (styK base ps ds i)))
              case atStart => exact ⟨0, _, rfl, rfl, by omega, rfl, bel, hB, ⟨rfl, .inl ⟨rfl, rfl⟩⟩⟩
              case round =>
                obtain ⟨i, v0, rfl, rfl, hi, rfl, beli, hBi, hown⟩ := hrel
                clear hB bel hrs
                obtain ⟨wi, rfl⟩ : ∃ wi : World, wi = wr := ⟨_, rfl⟩
                have hlt0 := hBi.lt
                by_cases hij : i < j
                · have hz : (i : Int) < j := by omega
                  have C := Lib.hid (CA2.out wi i beli hij)
                  obtain ⟨u, hu⟩ : ∃ u, (styK base ps ds j).getD i .zero = u := ⟨_, rfl⟩
                  have hsn : styK base ps ds (i + 1) = styK base ps ds i ++ [u] := by
                    have e : (styK base ps ds (i + 1)).getD i .zero = u := by rw [← hu]; exact styK_get base ps ds i (i + 1) j (by omega) hij
                    have hli := styK_len base ps ds i
                    rw [← e]
                    simp only [styK, List.getD_eq_getElem?_getD]
                    rw [List.getElem?_append_right (by omega), hli, Nat.sub_self]
                    rfl
                  have HSN := Lib.hid hsn
                  rw [hu] at C
                  have HOWN := Lib.hid hown
                  clear hu hsn hown
                  go_wp2_with (refine ldS rfl (.tmp 3) rfl _ rfl base hBi.lies ?_)
                  refine C.out.mono ?_
                  rintro e w4 ⟨rfl, b4⟩
                  have hown4 := own_keep HOWN.out (S := fun _ => False) (Mod.of_below b4) (fun _ _ h => h)
                  have hs4 : w.heap.size + 1 ≤ w4.heap.size := by have := b4.size; omega
                  go_wp2_with (refine apS rfl (.tmp 62) rfl 63 rfl rfl (.tmp 57) rfl u rfl v0 (fun _ => rfl) (fun _ => rfl) (w.heap.size + 1) i _ hown4 (by omega) hs4 ?_; intro uu v5 w5 hown5 b5)
                  go_roundg (j - (i + 1))
                  case measure => omega
                  case rel =>
                    have b45 : Below (w.heap.size + 1) wi w5 := (b4.mono (by omega)).trans b5
                    exact ⟨i + 1, _, by go_num, rfl, by omega, rfl, beli.trans (b45.mono (by omega)), (b45.block _ (Nat.lt_succ_self _)).trans hBi, by rw [HSN.out, flatS_snoc]; exact hown5⟩
                · obtain rfl : i = j := by omega
                  have hss := own_ss hown (styK_len base ps ds i)
                  clear hown
                  go_wp2_with fail
                  go_ret2
                  exact ⟨_, 0, _, rfl, RR.out, hss, beli⟩
        · rw [hc] at CC
          have RR := Lib.hid (R1'.out (fun h => by rw [hv] at h; cases h.1))
          clear hv hc R1' R2'
          go_wp2_with (refine ldS rfl (.tmp 3) rfl _ rfl base B1.lies ?_)
          refine (CC.out _).mono ?_
          rintro e w2 ⟨rfl, b2⟩
          go_wp2_with fail
          go_ret2
          exact StyPost.bad RR.out (below_seq b1 b2)
  · have h1 : ((m : Int) == (n : Int)) = false := by simp; omega
    have h2 : ((m : Int) != (n : Int)) = true := by simp; omega
    have RR := Lib.hid (R0.out (fun h => hnm h.1))
    clear R0 R1 R2 CAT hnm
    go_enter Tryd.func41, Tryd.ntmps41
    go_wp2_with (refine bxSV rfl (.tmp 0) rfl base rfl ?_; intro w1 b1 B1)
    go_ret2
    exact StyPost.bad RR.out b1
end Go.Proofs.YtgpobhnonjdamaaDoor

/- Contract of the document's Same for layer 6 at a list and itself. Conditions: the list lies where both slices say, at most 1000 elements. -/
namespace Go.Proofs.YtgpobhnonjdamaaDoor
open Go.ChangeShapes Go.WideShapes Go.ChangeAt Go.RowKit

set_option maxRecDepth 100000 in
set_option maxHeartbeats 4000000 in
theorem rsame_any (v1 v2 : Value) (l : List Sty) (w : World) (h1 : Ss w v1 l) (h2 : Ss w v2 l) (hn : l.length ≤ 1000) :
    Calls Tryd.prog 25 #[v1, v2] w fun e w' => e = .returned (.bool true) ∧ Below w.heap.size w w' := by
  have H1 := Lib.hid h1
  have H2 := Lib.hid h2
  obtain ⟨A, c, rfl⟩ := h1.form
  obtain ⟨B, c2, rfl⟩ := h2.form
  obtain ⟨n, hl⟩ : ∃ n, l.length = n := ⟨_, rfl⟩
  have HL := Lib.hid hl
  rw [hl] at hn H1 H2 ⊢
  clear h1 h2 hl
  go_enter Tryd.func25, Tryd.ntmps25
  go_wp2_with fail
  go_loopg [5] n (fun kx s5 wr => ∃ k : Nat, s5 = .int .i64 k ∧ k ≤ n ∧ kx = n - k ∧ Below w.heap.size w wr)
  case atStart => exact ⟨0, rfl, by omega, rfl, Below.refl _ _⟩
  case round =>
    obtain ⟨k, rfl, hk, rfl, bel⟩ := hrel
    by_cases hlt : k < n
    · have hz : (k : Int) < n := by omega
      have hkl : k < l.length := by rw [HL.out]; exact hlt
      obtain ⟨s, hs⟩ : ∃ s, l[k]? = some s := ⟨_, List.getElem?_eq_getElem hkl⟩
      obtain ⟨a1, cap1, o1, hv, _, ha1, hL1⟩ := H1.out.get bel hs
      injection hv with hv1 hv2 hv3
      subst hv1 hv3
      obtain ⟨a2, cap2, o2, hv, _, ha2, hL2⟩ := H2.out.get bel hs
      injection hv with hv1 hv4 hv3
      subst hv1 hv3
      have HNE := Lib.hid (fun w => neS s s w true (decide_eq_true rfl))
      simp only [Bool.not_true] at HNE
      clear hv2 hv4 hkl hs
      go_wp2_with fail
      refine region_any (by kernel_rfl) (fun W => Below wr.heap.size wr W) (below_drewN (Below.refl _ _) 1) (fun R hR => ?_)
      refine AllS.take (i := 0) (v := ?_) (by rw [List.getElem?_toArray]; rfl) (by kernel_rfl) (by kernel_rfl) (by kernel_rfl) (KeepsIf.read (by rfl) ?_) ?_
      rotate_left
      · intro W hSw
        (try dsimp only at hSw)
        go_simp
        (try with_reducible rfl)
      rotate_left
      (try simp only [Act.put, List.setIfInBounds_toArray, List.set_cons_zero, List.set_cons_succ])
      refine AllS.take (i := 1) (v := ?_) (by rw [List.getElem?_toArray]; rfl) (by kernel_rfl) (by kernel_rfl) (by kernel_rfl) (KeepsIf.read (by rfl) ?_) ?_
      rotate_left
      · intro W hSw
        (try dsimp only at hSw)
        go_simp
        (try with_reducible rfl)
      rotate_left
      (try simp only [Act.put, List.setIfInBounds_toArray, List.set_cons_zero, List.set_cons_succ])
      refine AllS.take (i := 2) (v := ?_) (by rw [List.getElem?_toArray]; rfl) (by kernel_rfl) (by kernel_rfl) (by kernel_rfl) (KeepsIf.read (by rfl) ?_) ?_
      rotate_left
      · intro W hSw
        (try dsimp only at hSw)
        go_simp
        (try with_reducible rfl)
      rotate_left
      (try simp only [Act.put, List.setIfInBounds_toArray, List.set_cons_zero, List.set_cons_succ])
      refine AllS.take (i := 3) (v := .agg s.cells) (by rw [List.getElem?_toArray]; rfl) (by kernel_rfl) (by kernel_rfl) (by kernel_rfl) (KeepsIf.read (by rfl) (fun W hSw => ?_)) ?_
      · (try dsimp only at hSw)
        exact rdS (.tmp 19) rfl _ rfl s (ha1 ▸ hL1.below hSw)
      (try simp only [Act.put, List.setIfInBounds_toArray, List.set_cons_zero, List.set_cons_succ])
      refine AllS.take (i := 4) (v := ?_) (by rw [List.getElem?_toArray]; rfl) (by kernel_rfl) (by kernel_rfl) (by kernel_rfl) (KeepsIf.read (by rfl) ?_) ?_
      rotate_left
      · intro W hSw
        (try dsimp only at hSw)
        go_simp
        (try with_reducible rfl)
      rotate_left
      (try simp only [Act.put, List.setIfInBounds_toArray, List.set_cons_zero, List.set_cons_succ])
      refine AllS.take (i := 5) (v := ?_) (by rw [List.getElem?_toArray]; rfl) (by kernel_rfl) (by kernel_rfl) (by kernel_rfl) (KeepsIf.read (by rfl) ?_) ?_
      rotate_left
      · intro W hSw
        (try dsimp only at hSw)
        go_simp
        (try with_reducible rfl)
      rotate_left
      (try simp only [Act.put, List.setIfInBounds_toArray, List.set_cons_zero, List.set_cons_succ])
      refine AllS.take (i := 6) (v := ?_) (by rw [List.getElem?_toArray]; rfl) (by kernel_rfl) (by kernel_rfl) (by kernel_rfl) (KeepsIf.read (by rfl) ?_) ?_
      rotate_left
      · intro W hSw
        (try dsimp only at hSw)
        go_simp
        (try with_reducible rfl)
      rotate_left
      (try simp only [Act.put, List.setIfInBounds_toArray, List.set_cons_zero, List.set_cons_succ])
      refine AllS.take (i := 7) (v := .agg s.cells) (by rw [List.getElem?_toArray]; rfl) (by kernel_rfl) (by kernel_rfl) (by kernel_rfl) (KeepsIf.read (by rfl) (fun W hSw => ?_)) ?_
      · (try dsimp only at hSw)
        exact rdS (.tmp 23) rfl _ rfl s (ha2 ▸ hL2.below hSw)
      (try simp only [Act.put, List.setIfInBounds_toArray, List.set_cons_zero, List.set_cons_succ])
      refine AllS.take (i := 8) (v := .bool false) (by rw [List.getElem?_toArray]; rfl) (by kernel_rfl) (by kernel_rfl) (by kernel_rfl) (KeepsIf.read (by rfl) (fun W hSw => ?_)) ?_
      · (try dsimp only at hSw)
        have hne := HNE.out; go_simp
      (try simp only [Act.put, List.setIfInBounds_toArray, List.set_cons_zero, List.set_cons_succ])
      refine AllS.done (by kernel_rfl) (hR.out _ ?_) _
      clear hR R
      intro w2 b2
      go_wp2_with fail
      go_roundg (n - (k + 1))
      case measure => omega
      case rel => exact ⟨k + 1, by go_num, by omega, rfl, bel.trans (b2.mono bel.size)⟩
    · obtain rfl : k = n := by omega
      go_wp2_with fail
      go_ret
      exact ⟨rfl, bel⟩
end Go.Proofs.YtgpobhnonjdamaaDoor
