/- Contracts of the document's Says, One, Check, First for layer 6. Condition: a declaration's bits are a 16-bit number. -/
import Derived.Test.YthdihhfbkfenmaaY2
import Derived.Test.YthdihhfbkfenmaaYBits
namespace Go.Proofs.Ythdihhfbkfenmaa
open Go.ChangeShapes Go.WideShapes Go.ChangeAt Go.RowKit

set_option maxHeartbeats 1000000 in
theorem rsays0 (d : Dcl) (w : World) (hn : d.n < 65536) :
    Calls Try.prog 24 #[.agg d.cells, .int .i64 0] w fun e w' => e = .returned (.bool (d.n.testBit 0)) ∧ Below w.heap.size w w' := by
  by_cases h : d.n.testBit 0 = true
  · have e : bits .and .u16 (d.n : Int) 1 = 1 := bit_yes d.n 0 1 hn h rfl (by omega)
    rw [h]
    clear h
    unfold Dcl.cells
    go_enter Try.func24, Try.ntmps24
    go_wp2
    go_ret
    exact ⟨rfl, below_alloc _ _⟩
  · have h2 := Bool.eq_false_iff.2 h
    have e : bits .and .u16 (d.n : Int) 1 = 0 := bit_no d.n 0 1 hn h2 rfl (by omega)
    rw [h2]
    clear h h2
    unfold Dcl.cells
    go_enter Try.func24, Try.ntmps24
    go_wp2
    go_ret
    exact ⟨rfl, below_alloc _ _⟩

set_option maxHeartbeats 1000000 in
theorem rsays1 (d : Dcl) (w : World) (hn : d.n < 65536) :
    Calls Try.prog 24 #[.agg d.cells, .int .i64 1] w fun e w' => e = .returned (.bool (d.n.testBit 1)) ∧ Below w.heap.size w w' := by
  by_cases h : d.n.testBit 1 = true
  · have e : bits .and .u16 ((d.n : Int) / 2) 1 = 1 := shr_yes d.n 1 2 hn h rfl
    rw [h]
    clear h
    unfold Dcl.cells
    go_enter Try.func24, Try.ntmps24
    go_wp2
    go_ret
    exact ⟨rfl, below_alloc _ _⟩
  · have h2 := Bool.eq_false_iff.2 h
    have e : bits .and .u16 ((d.n : Int) / 2) 1 = 0 := shr_no d.n 1 2 hn h2 rfl
    rw [h2]
    clear h h2
    unfold Dcl.cells
    go_enter Try.func24, Try.ntmps24
    go_wp2
    go_ret
    exact ⟨rfl, below_alloc _ _⟩

set_option maxHeartbeats 1000000 in
theorem rsays2 (d : Dcl) (w : World) (hn : d.n < 65536) :
    Calls Try.prog 24 #[.agg d.cells, .int .i64 2] w fun e w' => e = .returned (.bool (d.n.testBit 2)) ∧ Below w.heap.size w w' := by
  by_cases h : d.n.testBit 2 = true
  · have e : bits .and .u16 ((d.n : Int) / 4) 1 = 1 := shr_yes d.n 2 4 hn h rfl
    rw [h]
    clear h
    unfold Dcl.cells
    go_enter Try.func24, Try.ntmps24
    go_wp2
    go_ret
    exact ⟨rfl, below_alloc _ _⟩
  · have h2 := Bool.eq_false_iff.2 h
    have e : bits .and .u16 ((d.n : Int) / 4) 1 = 0 := shr_no d.n 2 4 hn h2 rfl
    rw [h2]
    clear h h2
    unfold Dcl.cells
    go_enter Try.func24, Try.ntmps24
    go_wp2
    go_ret
    exact ⟨rfl, below_alloc _ _⟩

set_option maxHeartbeats 1000000 in
theorem rsays3 (d : Dcl) (w : World) (hn : d.n < 65536) :
    Calls Try.prog 24 #[.agg d.cells, .int .i64 3] w fun e w' => e = .returned (.bool (d.n.testBit 3)) ∧ Below w.heap.size w w' := by
  by_cases h : d.n.testBit 3 = true
  · have e : bits .and .u16 ((d.n : Int) / 8) 1 = 1 := shr_yes d.n 3 8 hn h rfl
    rw [h]
    clear h
    unfold Dcl.cells
    go_enter Try.func24, Try.ntmps24
    go_wp2
    go_ret
    exact ⟨rfl, below_alloc _ _⟩
  · have h2 := Bool.eq_false_iff.2 h
    have e : bits .and .u16 ((d.n : Int) / 8) 1 = 0 := shr_no d.n 3 8 hn h2 rfl
    rw [h2]
    clear h h2
    unfold Dcl.cells
    go_enter Try.func24, Try.ntmps24
    go_wp2
    go_ret
    exact ⟨rfl, below_alloc _ _⟩

set_option maxHeartbeats 1000000 in
theorem rsays4 (d : Dcl) (w : World) (hn : d.n < 65536) :
    Calls Try.prog 24 #[.agg d.cells, .int .i64 4] w fun e w' => e = .returned (.bool (d.n.testBit 4)) ∧ Below w.heap.size w w' := by
  by_cases h : d.n.testBit 4 = true
  · have e : bits .and .u16 ((d.n : Int) / 16) 1 = 1 := shr_yes d.n 4 16 hn h rfl
    rw [h]
    clear h
    unfold Dcl.cells
    go_enter Try.func24, Try.ntmps24
    go_wp2
    go_ret
    exact ⟨rfl, below_alloc _ _⟩
  · have h2 := Bool.eq_false_iff.2 h
    have e : bits .and .u16 ((d.n : Int) / 16) 1 = 0 := shr_no d.n 4 16 hn h2 rfl
    rw [h2]
    clear h h2
    unfold Dcl.cells
    go_enter Try.func24, Try.ntmps24
    go_wp2
    go_ret
    exact ⟨rfl, below_alloc _ _⟩

set_option maxHeartbeats 1000000 in
theorem rsays5 (d : Dcl) (w : World) (hn : d.n < 65536) :
    Calls Try.prog 24 #[.agg d.cells, .int .i64 5] w fun e w' => e = .returned (.bool (d.n.testBit 5)) ∧ Below w.heap.size w w' := by
  by_cases h : d.n.testBit 5 = true
  · have e : bits .and .u16 ((d.n : Int) / 32) 1 = 1 := shr_yes d.n 5 32 hn h rfl
    rw [h]
    clear h
    unfold Dcl.cells
    go_enter Try.func24, Try.ntmps24
    go_wp2
    go_ret
    exact ⟨rfl, below_alloc _ _⟩
  · have h2 := Bool.eq_false_iff.2 h
    have e : bits .and .u16 ((d.n : Int) / 32) 1 = 0 := shr_no d.n 5 32 hn h2 rfl
    rw [h2]
    clear h h2
    unfold Dcl.cells
    go_enter Try.func24, Try.ntmps24
    go_wp2
    go_ret
    exact ⟨rfl, below_alloc _ _⟩

set_option maxHeartbeats 1000000 in
theorem rsays6 (d : Dcl) (w : World) (hn : d.n < 65536) :
    Calls Try.prog 24 #[.agg d.cells, .int .i64 6] w fun e w' => e = .returned (.bool (d.n.testBit 6)) ∧ Below w.heap.size w w' := by
  by_cases h : d.n.testBit 6 = true
  · have e : bits .and .u16 ((d.n : Int) / 64) 1 = 1 := shr_yes d.n 6 64 hn h rfl
    rw [h]
    clear h
    unfold Dcl.cells
    go_enter Try.func24, Try.ntmps24
    go_wp2
    go_ret
    exact ⟨rfl, below_alloc _ _⟩
  · have h2 := Bool.eq_false_iff.2 h
    have e : bits .and .u16 ((d.n : Int) / 64) 1 = 0 := shr_no d.n 6 64 hn h2 rfl
    rw [h2]
    clear h h2
    unfold Dcl.cells
    go_enter Try.func24, Try.ntmps24
    go_wp2
    go_ret
    exact ⟨rfl, below_alloc _ _⟩

set_option maxHeartbeats 1000000 in
theorem rsays7 (d : Dcl) (w : World) (hn : d.n < 65536) :
    Calls Try.prog 24 #[.agg d.cells, .int .i64 7] w fun e w' => e = .returned (.bool (d.n.testBit 7)) ∧ Below w.heap.size w w' := by
  by_cases h : d.n.testBit 7 = true
  · have e : bits .and .u16 ((d.n : Int) / 128) 1 = 1 := shr_yes d.n 7 128 hn h rfl
    rw [h]
    clear h
    unfold Dcl.cells
    go_enter Try.func24, Try.ntmps24
    go_wp2
    go_ret
    exact ⟨rfl, below_alloc _ _⟩
  · have h2 := Bool.eq_false_iff.2 h
    have e : bits .and .u16 ((d.n : Int) / 128) 1 = 0 := shr_no d.n 7 128 hn h2 rfl
    rw [h2]
    clear h h2
    unfold Dcl.cells
    go_enter Try.func24, Try.ntmps24
    go_wp2
    go_ret
    exact ⟨rfl, below_alloc _ _⟩

set_option maxRecDepth 100000 in
set_option maxHeartbeats 1000000 in
theorem rone0 (s d : Sty) (w : World) :
    Calls Try.prog 25 #[.agg s.cells, .agg d.cells, .int .i64 0] w fun e w' => e = .returned (.agg (put1 0 s d).cells) ∧ Below w.heap.size w w' := by
  unfold Sty.cells
  go_enter Try.func25, Try.ntmps25
  go_wp2
  exact bodyPost_ret (v := .agg (put1 0 s d).cells) (by simp [results, Try.results25, go_sem, Sty.cells, put1]) rfl ⟨rfl, (((Below.refl _ _).alloc (Nat.le_refl _) _).alloc (by simp) _).alloc (by simp; omega) _⟩

set_option maxRecDepth 100000 in
set_option maxHeartbeats 1000000 in
theorem rone1 (s d : Sty) (w : World) :
    Calls Try.prog 25 #[.agg s.cells, .agg d.cells, .int .i64 1] w fun e w' => e = .returned (.agg (put1 1 s d).cells) ∧ Below w.heap.size w w' := by
  unfold Sty.cells
  go_enter Try.func25, Try.ntmps25
  go_wp2
  exact bodyPost_ret (v := .agg (put1 1 s d).cells) (by simp [results, Try.results25, go_sem, Sty.cells, put1]) rfl ⟨rfl, (((Below.refl _ _).alloc (Nat.le_refl _) _).alloc (by simp) _).alloc (by simp; omega) _⟩

set_option maxRecDepth 100000 in
set_option maxHeartbeats 1000000 in
theorem rone2 (s d : Sty) (w : World) :
    Calls Try.prog 25 #[.agg s.cells, .agg d.cells, .int .i64 2] w fun e w' => e = .returned (.agg (put1 2 s d).cells) ∧ Below w.heap.size w w' := by
  unfold Sty.cells
  go_enter Try.func25, Try.ntmps25
  go_wp2
  exact bodyPost_ret (v := .agg (put1 2 s d).cells) (by simp [results, Try.results25, go_sem, Sty.cells, put1]) rfl ⟨rfl, (((Below.refl _ _).alloc (Nat.le_refl _) _).alloc (by simp) _).alloc (by simp; omega) _⟩

set_option maxRecDepth 100000 in
set_option maxHeartbeats 1000000 in
theorem rone3 (s d : Sty) (w : World) :
    Calls Try.prog 25 #[.agg s.cells, .agg d.cells, .int .i64 3] w fun e w' => e = .returned (.agg (put1 3 s d).cells) ∧ Below w.heap.size w w' := by
  unfold Sty.cells
  go_enter Try.func25, Try.ntmps25
  go_wp2
  exact bodyPost_ret (v := .agg (put1 3 s d).cells) (by simp [results, Try.results25, go_sem, Sty.cells, put1]) rfl ⟨rfl, (((Below.refl _ _).alloc (Nat.le_refl _) _).alloc (by simp) _).alloc (by simp; omega) _⟩

set_option maxRecDepth 100000 in
set_option maxHeartbeats 1000000 in
theorem rone4 (s d : Sty) (w : World) :
    Calls Try.prog 25 #[.agg s.cells, .agg d.cells, .int .i64 4] w fun e w' => e = .returned (.agg (put1 4 s d).cells) ∧ Below w.heap.size w w' := by
  unfold Sty.cells
  go_enter Try.func25, Try.ntmps25
  go_wp2
  exact bodyPost_ret (v := .agg (put1 4 s d).cells) (by simp [results, Try.results25, go_sem, Sty.cells, put1]) rfl ⟨rfl, (((Below.refl _ _).alloc (Nat.le_refl _) _).alloc (by simp) _).alloc (by simp; omega) _⟩

set_option maxRecDepth 100000 in
set_option maxHeartbeats 1000000 in
theorem rone5 (s d : Sty) (w : World) :
    Calls Try.prog 25 #[.agg s.cells, .agg d.cells, .int .i64 5] w fun e w' => e = .returned (.agg (put1 5 s d).cells) ∧ Below w.heap.size w w' := by
  unfold Sty.cells
  go_enter Try.func25, Try.ntmps25
  go_wp2
  exact bodyPost_ret (v := .agg (put1 5 s d).cells) (by simp [results, Try.results25, go_sem, Sty.cells, put1]) rfl ⟨rfl, (((Below.refl _ _).alloc (Nat.le_refl _) _).alloc (by simp) _).alloc (by simp; omega) _⟩

set_option maxRecDepth 100000 in
set_option maxHeartbeats 1000000 in
theorem rone6 (s d : Sty) (w : World) :
    Calls Try.prog 25 #[.agg s.cells, .agg d.cells, .int .i64 6] w fun e w' => e = .returned (.agg (put1 6 s d).cells) ∧ Below w.heap.size w w' := by
  unfold Sty.cells
  go_enter Try.func25, Try.ntmps25
  go_wp2
  exact bodyPost_ret (v := .agg (put1 6 s d).cells) (by simp [results, Try.results25, go_sem, Sty.cells, put1]) rfl ⟨rfl, (((Below.refl _ _).alloc (Nat.le_refl _) _).alloc (by simp) _).alloc (by simp; omega) _⟩

set_option maxRecDepth 100000 in
set_option maxHeartbeats 1000000 in
theorem rone7 (s d : Sty) (w : World) :
    Calls Try.prog 25 #[.agg s.cells, .agg d.cells, .int .i64 7] w fun e w' => e = .returned (.agg (put1 7 s d).cells) ∧ Below w.heap.size w w' := by
  unfold Sty.cells
  go_enter Try.func25, Try.ntmps25
  go_wp2
  exact bodyPost_ret (v := .agg (put1 7 s d).cells) (by simp [results, Try.results25, go_sem, Sty.cells, put1]) rfl ⟨rfl, (((Below.refl _ _).alloc (Nat.le_refl _) _).alloc (by simp) _).alloc (by simp; omega) _⟩
end Go.Proofs.Ythdihhfbkfenmaa
