/- Package utf's table of forms, and the contract of the function that looks a row up (utf.formOf). Condition: the table lies in memory as the program's text lays it. -/
import Derived.Test.YtgnalnppjhgmjaaDoorU9
import Derived.Laws.Rows
namespace Go.Proofs.YtgnalnppjhgmjaaDoor
open Go.ChangeShapes Go.WideShapes Go.ChangeAt Go.RowKit

/-- the table's cells -/
def tabCells : Array Value := #[.int .u8 0, .int .u8 127, .int .u8 0, .int .u8 0, .int .u8 0, .int .i64 1, .int .u8 194, .int .u8 223, .int .u8 128, .int .u8 191, .int .u8 192, .int .i64 2, .int .u8 224, .int .u8 224, .int .u8 160, .int .u8 191, .int .u8 224, .int .i64 3, .int .u8 225, .int .u8 236, .int .u8 128, .int .u8 191, .int .u8 224, .int .i64 3, .int .u8 237, .int .u8 237, .int .u8 128, .int .u8 159, .int .u8 224, .int .i64 3, .int .u8 238, .int .u8 239, .int .u8 128, .int .u8 191, .int .u8 224, .int .i64 3, .int .u8 240, .int .u8 240, .int .u8 144, .int .u8 191, .int .u8 240, .int .i64 4, .int .u8 241, .int .u8 243, .int .u8 128, .int .u8 191, .int .u8 240, .int .i64 4, .int .u8 244, .int .u8 244, .int .u8 128, .int .u8 143, .int .u8 240, .int .i64 4]

/-- the table lies in its block -/
def Tab (w : World) : Prop := ∃ t fz, w.heap[0]? = some (.cells tabCells t fz)

theorem Tab.pos {w : World} (h : Tab w) : 0 < w.heap.size := by
  obtain ⟨t, fz, h⟩ := h
  exact (Array.getElem?_eq_some_iff.1 h).1
theorem Tab.below {w w' : World} (h : Tab w) (b : Below w.heap.size w w') : Tab w' := by
  have hp := h.pos
  obtain ⟨t, fz, h⟩ := h
  exact ⟨t, fz, (b.block 0 hp).trans h⟩
theorem Tab.alloc {w : World} (h : Tab w) (o : Obj) : Tab (w.alloc o) := h.below (below_alloc w o)
theorem Tab.drew {w : World} (h : Tab w) : Tab w.drew := h
theorem Tab.drewN {w : World} (h : Tab w) (n : Nat) : Tab (w.drewN n) := h
theorem Tab.drawn {w w' : World} (h : Tab w) (d : Drawn w w') : Tab w' := h.below (below_drawn d)

/-- a row's first and last byte -/
def ends : Nat → Nat × Nat
  | 0 => (0, 127)
  | 1 => (194, 223)
  | 2 => (224, 224)
  | 3 => (225, 236)
  | 4 => (237, 237)
  | 5 => (238, 239)
  | 6 => (240, 240)
  | 7 => (241, 243)
  | 8 => (244, 244)
  | _ => (1, 0)
/-- a row's cells -/
def rowOf : Nat → Array Value
  | 0 => #[.int .u8 0, .int .u8 127, .int .u8 0, .int .u8 0, .int .u8 0, .int .i64 1]
  | 1 => #[.int .u8 194, .int .u8 223, .int .u8 128, .int .u8 191, .int .u8 192, .int .i64 2]
  | 2 => #[.int .u8 224, .int .u8 224, .int .u8 160, .int .u8 191, .int .u8 224, .int .i64 3]
  | 3 => #[.int .u8 225, .int .u8 236, .int .u8 128, .int .u8 191, .int .u8 224, .int .i64 3]
  | 4 => #[.int .u8 237, .int .u8 237, .int .u8 128, .int .u8 159, .int .u8 224, .int .i64 3]
  | 5 => #[.int .u8 238, .int .u8 239, .int .u8 128, .int .u8 191, .int .u8 224, .int .i64 3]
  | 6 => #[.int .u8 240, .int .u8 240, .int .u8 144, .int .u8 191, .int .u8 240, .int .i64 4]
  | 7 => #[.int .u8 241, .int .u8 243, .int .u8 128, .int .u8 191, .int .u8 240, .int .i64 4]
  | 8 => #[.int .u8 244, .int .u8 244, .int .u8 128, .int .u8 143, .int .u8 240, .int .i64 4]
  | _ => #[.int .u8 0, .int .u8 0, .int .u8 0, .int .u8 0, .int .u8 0, .int .i64 0]
/-- a byte begins a row -/
def Fits (i b : Nat) : Prop := (ends i).1 ≤ b ∧ b ≤ (ends i).2

theorem results_row_tmp {P : Program} {fn : Func} {p u : Tmp} {ty : TypeId} (h : fn.results = #[.cell p ty, .tmp u]) (tmps : Array Value) (w : World) (g : Nat) (t : TypeId) (cs : Array Value) (fr : Nat × Nat) (d : TypeDesc)
    (hp : tmps.getD p undef = .pointer (some ⟨g, 0, none⟩)) (hg : w.heap[g]? = some (.cells cs t fr))
    (hu : P.underlying ty = some d) (hd : (match d with | .struct _ | .array _ _ => true | _ => false) = true) (hi : (P.info? ty).map (·.size) = some cs.size) :
    (results fn tmps).run P w = .ok (.tuple #[.agg cs, tmps.getD u undef]) w := by
  have hp' : tmps[p]?.getD undef = .pointer (some ⟨g, 0, none⟩) := by simpa using hp
  simp [results, h, hp', asAddr, run_loadVar_row w g t ty cs fr d hg hu hd hi]

theorem below_row {B g : Nat} {w0 w : World} (hb : Below B w0 w) (hBg : B ≤ g) (cs : Array Value) : Below B w0 (w.setRow g cs) :=
  hb.trans ⟨rfl, rfl, rfl, by simp, fun k hk => setRow_other w g k cs (by omega)⟩

theorem fits_not {k b : Nat} (h : Hid (∀ i, i < k → ¬ Fits i b)) (hk : ¬ Fits k b) : ∀ i, i < k + 1 → ¬ Fits i b := fun i hi => by
  by_cases he : i = k
  · rw [he]; exact hk
  · exact h.out i (by omega)

set_option maxRecDepth 100000 in
set_option maxHeartbeats 4000000 in
theorem formOf_any (b : Nat) (w : World) (hb : b ≤ 255) (hT : Tab w) :
    Calls Tryd.prog 30 #[.int .u8 b] w fun e w' => Below w.heap.size w w' ∧
      ((∃ i, i < 9 ∧ Fits i b ∧ e = .returned (.tuple #[.agg (rowOf i), .bool true])) ∨ ((∀ i, i < 9 → ¬ Fits i b) ∧ e = .returned (.tuple #[.agg #[.int .u8 0, .int .u8 0, .int .u8 0, .int .u8 0, .int .u8 0, .int .i64 0], .bool false]))) := by
  obtain ⟨tt, fr, hg⟩ := hT.alloc (.cells #[.int .u8 0, .int .u8 0, .int .u8 0, .int .u8 0, .int .u8 0, .int .i64 0] 51)
  clear hT
  have i0 : Hid (∀ w, (Instr.index 56 (.agg tabCells) (.int .i64 0)).run Tryd.prog w = .ok (.agg #[.int .u8 0, .int .u8 127, .int .u8 0, .int .u8 0, .int .u8 0, .int .i64 1]) w) := fun _ => by kernel_rfl
  have i1 : Hid (∀ w, (Instr.index 56 (.agg tabCells) (.int .i64 1)).run Tryd.prog w = .ok (.agg #[.int .u8 194, .int .u8 223, .int .u8 128, .int .u8 191, .int .u8 192, .int .i64 2]) w) := fun _ => by kernel_rfl
  have i2 : Hid (∀ w, (Instr.index 56 (.agg tabCells) (.int .i64 2)).run Tryd.prog w = .ok (.agg #[.int .u8 224, .int .u8 224, .int .u8 160, .int .u8 191, .int .u8 224, .int .i64 3]) w) := fun _ => by kernel_rfl
  have i3 : Hid (∀ w, (Instr.index 56 (.agg tabCells) (.int .i64 3)).run Tryd.prog w = .ok (.agg #[.int .u8 225, .int .u8 236, .int .u8 128, .int .u8 191, .int .u8 224, .int .i64 3]) w) := fun _ => by kernel_rfl
  have i4 : Hid (∀ w, (Instr.index 56 (.agg tabCells) (.int .i64 4)).run Tryd.prog w = .ok (.agg #[.int .u8 237, .int .u8 237, .int .u8 128, .int .u8 159, .int .u8 224, .int .i64 3]) w) := fun _ => by kernel_rfl
  have i5 : Hid (∀ w, (Instr.index 56 (.agg tabCells) (.int .i64 5)).run Tryd.prog w = .ok (.agg #[.int .u8 238, .int .u8 239, .int .u8 128, .int .u8 191, .int .u8 224, .int .i64 3]) w) := fun _ => by kernel_rfl
  have i6 : Hid (∀ w, (Instr.index 56 (.agg tabCells) (.int .i64 6)).run Tryd.prog w = .ok (.agg #[.int .u8 240, .int .u8 240, .int .u8 144, .int .u8 191, .int .u8 240, .int .i64 4]) w) := fun _ => by kernel_rfl
  have i7 : Hid (∀ w, (Instr.index 56 (.agg tabCells) (.int .i64 7)).run Tryd.prog w = .ok (.agg #[.int .u8 241, .int .u8 243, .int .u8 128, .int .u8 191, .int .u8 240, .int .i64 4]) w) := fun _ => by kernel_rfl
  have i8 : Hid (∀ w, (Instr.index 56 (.agg tabCells) (.int .i64 8)).run Tryd.prog w = .ok (.agg #[.int .u8 244, .int .u8 244, .int .u8 128, .int .u8 143, .int .u8 240, .int .i64 4]) w) := fun _ => by kernel_rfl
  obtain ⟨TC, hTC⟩ : ∃ T, tabCells = T := ⟨_, rfl⟩
  have hsz : (Tryd.prog.info? 56).map (·.size) = some tabCells.size := by kernel_rfl
  rw [hTC] at hg i0 i1 i2 i3 i4 i5 i6 i7 i8 hsz
  clear hTC
  go_enter Tryd.func30, Tryd.ntmps30
  go_wp2_with (refine wpList_load_row rfl 56 _ rfl 0 rfl tt _ fr _ hg Tryd.underlying56 rfl hsz ?_)
  clear hg hsz
  go_loopg [7] 100 (fun g s7 wx => Below w.heap.size w wx ∧ wx.heap[w.heap.size]? = some (.cells #[.int .u8 0, .int .u8 0, .int .u8 0, .int .u8 0, .int .u8 0, .int .i64 0] 51) ∧ ∃ k : Nat, s7 = .int .i64 k ∧ k ≤ 9 ∧ g = 100 - k ∧ Hid (∀ i, i < k → ¬ Fits i b))
  case atStart => exact ⟨below_alloc _ _, Go.heap_alloc_new w _, 0, rfl, by omega, rfl, fun i hi => by omega⟩
  case round =>
    obtain ⟨bel, hz, k, rfl, hk, rfl, hF⟩ := hrel
    have hlt : w.heap.size < wr.heap.size := (Array.getElem?_eq_some_iff.1 hz).1
    have HZ := Lib.hid hz
    have hi6 : Hid ((Tryd.prog.info? 51).map (·.size) = some 6) := Lib.hid (by kernel_rfl)
    clear hz
    have hc : k = 0 ∨ k = 1 ∨ k = 2 ∨ k = 3 ∨ k = 4 ∨ k = 5 ∨ k = 6 ∨ k = 7 ∨ k = 8 ∨ k = 9 := by omega
    rcases hc with rfl | rfl | rfl | rfl | rfl | rfl | rfl | rfl | rfl | rfl
    · have ix := i0.out
      have HZ1 : Hid ((wr.alloc (.cells #[.int .u8 0, .int .u8 127, .int .u8 0, .int .u8 0, .int .u8 0, .int .i64 1] 51)).heap[w.heap.size]? = some (.cells #[.int .u8 0, .int .u8 0, .int .u8 0, .int .u8 0, .int .u8 0, .int .i64 0] 51)) := (heap_alloc_old wr _ hlt).trans HZ.out
      by_cases h2 : 0 ≤ b
      · have h2z : (0 : Int) ≤ (b : Int) := by omega
        by_cases h3 : b ≤ 127
        · have h3z : (b : Int) ≤ 127 := by omega
          go_wp2_with (first
            | (refine wpList_load_row rfl 51 (.tmp 5) rfl wr.heap.size rfl 51 #[.int .u8 0, .int .u8 127, .int .u8 0, .int .u8 0, .int .u8 0, .int .i64 1] (0, 0) _ (heap_alloc_new wr _) Tryd.underlying51 rfl hi6.out ?_)
            | (refine wpList_store_row rfl 51 (.tmp 2) (.tmp 20) rfl w.heap.size #[.int .u8 0, .int .u8 127, .int .u8 0, .int .u8 0, .int .u8 0, .int .i64 1] rfl rfl 51 #[.int .u8 0, .int .u8 0, .int .u8 0, .int .u8 0, .int .u8 0, .int .i64 0] HZ1.out hi6.out rfl (by kernel_rfl) ?_))
          (try simp only [Exit.inBlock, Exit.then])
          refine ⟨rfl, _, results_row_tmp rfl _ _ w.heap.size 51 #[.int .u8 0, .int .u8 127, .int .u8 0, .int .u8 0, .int .u8 0, .int .i64 1] (0, 0) _ rfl (setRow_heap _ _ _ _ _ _ HZ1.out) Tryd.underlying51 rfl hi6.out, ?_⟩
          exact ⟨below_row (bel.trans ((below_alloc wr _).mono bel.size)) (Nat.le_refl _) _, Or.inl ⟨0, by omega, ⟨h2, h3⟩, rfl⟩⟩
        · have h3z : ¬ (b : Int) ≤ 127 := by omega
          go_wp2_with fail
          go_roundg (100 - 1)
          case measure => omega
          case rel => exact ⟨bel.trans ((below_alloc wr _).mono bel.size), (heap_alloc_old wr _ hlt).trans HZ.out, 1, by go_num, by omega, rfl, fits_not hF (fun h => h3 h.2)⟩
      · exact absurd (Nat.zero_le b) h2
    · have ix := i1.out
      have HZ1 : Hid ((wr.alloc (.cells #[.int .u8 194, .int .u8 223, .int .u8 128, .int .u8 191, .int .u8 192, .int .i64 2] 51)).heap[w.heap.size]? = some (.cells #[.int .u8 0, .int .u8 0, .int .u8 0, .int .u8 0, .int .u8 0, .int .i64 0] 51)) := (heap_alloc_old wr _ hlt).trans HZ.out
      by_cases h2 : 194 ≤ b
      · have h2z : (194 : Int) ≤ (b : Int) := by omega
        by_cases h3 : b ≤ 223
        · have h3z : (b : Int) ≤ 223 := by omega
          go_wp2_with (first
            | (refine wpList_load_row rfl 51 (.tmp 5) rfl wr.heap.size rfl 51 #[.int .u8 194, .int .u8 223, .int .u8 128, .int .u8 191, .int .u8 192, .int .i64 2] (0, 0) _ (heap_alloc_new wr _) Tryd.underlying51 rfl hi6.out ?_)
            | (refine wpList_store_row rfl 51 (.tmp 2) (.tmp 20) rfl w.heap.size #[.int .u8 194, .int .u8 223, .int .u8 128, .int .u8 191, .int .u8 192, .int .i64 2] rfl rfl 51 #[.int .u8 0, .int .u8 0, .int .u8 0, .int .u8 0, .int .u8 0, .int .i64 0] HZ1.out hi6.out rfl (by kernel_rfl) ?_))
          (try simp only [Exit.inBlock, Exit.then])
          refine ⟨rfl, _, results_row_tmp rfl _ _ w.heap.size 51 #[.int .u8 194, .int .u8 223, .int .u8 128, .int .u8 191, .int .u8 192, .int .i64 2] (0, 0) _ rfl (setRow_heap _ _ _ _ _ _ HZ1.out) Tryd.underlying51 rfl hi6.out, ?_⟩
          exact ⟨below_row (bel.trans ((below_alloc wr _).mono bel.size)) (Nat.le_refl _) _, Or.inl ⟨1, by omega, ⟨h2, h3⟩, rfl⟩⟩
        · have h3z : ¬ (b : Int) ≤ 223 := by omega
          go_wp2_with fail
          go_roundg (100 - 2)
          case measure => omega
          case rel => exact ⟨bel.trans ((below_alloc wr _).mono bel.size), (heap_alloc_old wr _ hlt).trans HZ.out, 2, by go_num, by omega, rfl, fits_not hF (fun h => h3 h.2)⟩
      · have h2z : ¬ (194 : Int) ≤ (b : Int) := by omega
        go_wp2_with fail
        go_roundg (100 - 2)
        case measure => omega
        case rel => exact ⟨bel.trans ((below_alloc wr _).mono bel.size), (heap_alloc_old wr _ hlt).trans HZ.out, 2, by go_num, by omega, rfl, fits_not hF (fun h => h2 h.1)⟩
    · have ix := i2.out
      have HZ1 : Hid ((wr.alloc (.cells #[.int .u8 224, .int .u8 224, .int .u8 160, .int .u8 191, .int .u8 224, .int .i64 3] 51)).heap[w.heap.size]? = some (.cells #[.int .u8 0, .int .u8 0, .int .u8 0, .int .u8 0, .int .u8 0, .int .i64 0] 51)) := (heap_alloc_old wr _ hlt).trans HZ.out
      by_cases h2 : 224 ≤ b
      · have h2z : (224 : Int) ≤ (b : Int) := by omega
        by_cases h3 : b ≤ 224
        · have h3z : (b : Int) ≤ 224 := by omega
          go_wp2_with (first
            | (refine wpList_load_row rfl 51 (.tmp 5) rfl wr.heap.size rfl 51 #[.int .u8 224, .int .u8 224, .int .u8 160, .int .u8 191, .int .u8 224, .int .i64 3] (0, 0) _ (heap_alloc_new wr _) Tryd.underlying51 rfl hi6.out ?_)
            | (refine wpList_store_row rfl 51 (.tmp 2) (.tmp 20) rfl w.heap.size #[.int .u8 224, .int .u8 224, .int .u8 160, .int .u8 191, .int .u8 224, .int .i64 3] rfl rfl 51 #[.int .u8 0, .int .u8 0, .int .u8 0, .int .u8 0, .int .u8 0, .int .i64 0] HZ1.out hi6.out rfl (by kernel_rfl) ?_))
          (try simp only [Exit.inBlock, Exit.then])
          refine ⟨rfl, _, results_row_tmp rfl _ _ w.heap.size 51 #[.int .u8 224, .int .u8 224, .int .u8 160, .int .u8 191, .int .u8 224, .int .i64 3] (0, 0) _ rfl (setRow_heap _ _ _ _ _ _ HZ1.out) Tryd.underlying51 rfl hi6.out, ?_⟩
          exact ⟨below_row (bel.trans ((below_alloc wr _).mono bel.size)) (Nat.le_refl _) _, Or.inl ⟨2, by omega, ⟨h2, h3⟩, rfl⟩⟩
        · have h3z : ¬ (b : Int) ≤ 224 := by omega
          go_wp2_with fail
          go_roundg (100 - 3)
          case measure => omega
          case rel => exact ⟨bel.trans ((below_alloc wr _).mono bel.size), (heap_alloc_old wr _ hlt).trans HZ.out, 3, by go_num, by omega, rfl, fits_not hF (fun h => h3 h.2)⟩
      · have h2z : ¬ (224 : Int) ≤ (b : Int) := by omega
        go_wp2_with fail
        go_roundg (100 - 3)
        case measure => omega
        case rel => exact ⟨bel.trans ((below_alloc wr _).mono bel.size), (heap_alloc_old wr _ hlt).trans HZ.out, 3, by go_num, by omega, rfl, fits_not hF (fun h => h2 h.1)⟩
    · have ix := i3.out
      have HZ1 : Hid ((wr.alloc (.cells #[.int .u8 225, .int .u8 236, .int .u8 128, .int .u8 191, .int .u8 224, .int .i64 3] 51)).heap[w.heap.size]? = some (.cells #[.int .u8 0, .int .u8 0, .int .u8 0, .int .u8 0, .int .u8 0, .int .i64 0] 51)) := (heap_alloc_old wr _ hlt).trans HZ.out
      by_cases h2 : 225 ≤ b
      · have h2z : (225 : Int) ≤ (b : Int) := by omega
        by_cases h3 : b ≤ 236
        · have h3z : (b : Int) ≤ 236 := by omega
          go_wp2_with (first
            | (refine wpList_load_row rfl 51 (.tmp 5) rfl wr.heap.size rfl 51 #[.int .u8 225, .int .u8 236, .int .u8 128, .int .u8 191, .int .u8 224, .int .i64 3] (0, 0) _ (heap_alloc_new wr _) Tryd.underlying51 rfl hi6.out ?_)
            | (refine wpList_store_row rfl 51 (.tmp 2) (.tmp 20) rfl w.heap.size #[.int .u8 225, .int .u8 236, .int .u8 128, .int .u8 191, .int .u8 224, .int .i64 3] rfl rfl 51 #[.int .u8 0, .int .u8 0, .int .u8 0, .int .u8 0, .int .u8 0, .int .i64 0] HZ1.out hi6.out rfl (by kernel_rfl) ?_))
          (try simp only [Exit.inBlock, Exit.then])
          refine ⟨rfl, _, results_row_tmp rfl _ _ w.heap.size 51 #[.int .u8 225, .int .u8 236, .int .u8 128, .int .u8 191, .int .u8 224, .int .i64 3] (0, 0) _ rfl (setRow_heap _ _ _ _ _ _ HZ1.out) Tryd.underlying51 rfl hi6.out, ?_⟩
          exact ⟨below_row (bel.trans ((below_alloc wr _).mono bel.size)) (Nat.le_refl _) _, Or.inl ⟨3, by omega, ⟨h2, h3⟩, rfl⟩⟩
        · have h3z : ¬ (b : Int) ≤ 236 := by omega
          go_wp2_with fail
          go_roundg (100 - 4)
          case measure => omega
          case rel => exact ⟨bel.trans ((below_alloc wr _).mono bel.size), (heap_alloc_old wr _ hlt).trans HZ.out, 4, by go_num, by omega, rfl, fits_not hF (fun h => h3 h.2)⟩
      · have h2z : ¬ (225 : Int) ≤ (b : Int) := by omega
        go_wp2_with fail
        go_roundg (100 - 4)
        case measure => omega
        case rel => exact ⟨bel.trans ((below_alloc wr _).mono bel.size), (heap_alloc_old wr _ hlt).trans HZ.out, 4, by go_num, by omega, rfl, fits_not hF (fun h => h2 h.1)⟩
    · have ix := i4.out
      have HZ1 : Hid ((wr.alloc (.cells #[.int .u8 237, .int .u8 237, .int .u8 128, .int .u8 159, .int .u8 224, .int .i64 3] 51)).heap[w.heap.size]? = some (.cells #[.int .u8 0, .int .u8 0, .int .u8 0, .int .u8 0, .int .u8 0, .int .i64 0] 51)) := (heap_alloc_old wr _ hlt).trans HZ.out
      by_cases h2 : 237 ≤ b
      · have h2z : (237 : Int) ≤ (b : Int) := by omega
        by_cases h3 : b ≤ 237
        · have h3z : (b : Int) ≤ 237 := by omega
          go_wp2_with (first
            | (refine wpList_load_row rfl 51 (.tmp 5) rfl wr.heap.size rfl 51 #[.int .u8 237, .int .u8 237, .int .u8 128, .int .u8 159, .int .u8 224, .int .i64 3] (0, 0) _ (heap_alloc_new wr _) Tryd.underlying51 rfl hi6.out ?_)
            | (refine wpList_store_row rfl 51 (.tmp 2) (.tmp 20) rfl w.heap.size #[.int .u8 237, .int .u8 237, .int .u8 128, .int .u8 159, .int .u8 224, .int .i64 3] rfl rfl 51 #[.int .u8 0, .int .u8 0, .int .u8 0, .int .u8 0, .int .u8 0, .int .i64 0] HZ1.out hi6.out rfl (by kernel_rfl) ?_))
          (try simp only [Exit.inBlock, Exit.then])
          refine ⟨rfl, _, results_row_tmp rfl _ _ w.heap.size 51 #[.int .u8 237, .int .u8 237, .int .u8 128, .int .u8 159, .int .u8 224, .int .i64 3] (0, 0) _ rfl (setRow_heap _ _ _ _ _ _ HZ1.out) Tryd.underlying51 rfl hi6.out, ?_⟩
          exact ⟨below_row (bel.trans ((below_alloc wr _).mono bel.size)) (Nat.le_refl _) _, Or.inl ⟨4, by omega, ⟨h2, h3⟩, rfl⟩⟩
        · have h3z : ¬ (b : Int) ≤ 237 := by omega
          go_wp2_with fail
          go_roundg (100 - 5)
          case measure => omega
          case rel => exact ⟨bel.trans ((below_alloc wr _).mono bel.size), (heap_alloc_old wr _ hlt).trans HZ.out, 5, by go_num, by omega, rfl, fits_not hF (fun h => h3 h.2)⟩
      · have h2z : ¬ (237 : Int) ≤ (b : Int) := by omega
        go_wp2_with fail
        go_roundg (100 - 5)
        case measure => omega
        case rel => exact ⟨bel.trans ((below_alloc wr _).mono bel.size), (heap_alloc_old wr _ hlt).trans HZ.out, 5, by go_num, by omega, rfl, fits_not hF (fun h => h2 h.1)⟩
    · have ix := i5.out
      have HZ1 : Hid ((wr.alloc (.cells #[.int .u8 238, .int .u8 239, .int .u8 128, .int .u8 191, .int .u8 224, .int .i64 3] 51)).heap[w.heap.size]? = some (.cells #[.int .u8 0, .int .u8 0, .int .u8 0, .int .u8 0, .int .u8 0, .int .i64 0] 51)) := (heap_alloc_old wr _ hlt).trans HZ.out
      by_cases h2 : 238 ≤ b
      · have h2z : (238 : Int) ≤ (b : Int) := by omega
        by_cases h3 : b ≤ 239
        · have h3z : (b : Int) ≤ 239 := by omega
          go_wp2_with (first
            | (refine wpList_load_row rfl 51 (.tmp 5) rfl wr.heap.size rfl 51 #[.int .u8 238, .int .u8 239, .int .u8 128, .int .u8 191, .int .u8 224, .int .i64 3] (0, 0) _ (heap_alloc_new wr _) Tryd.underlying51 rfl hi6.out ?_)
            | (refine wpList_store_row rfl 51 (.tmp 2) (.tmp 20) rfl w.heap.size #[.int .u8 238, .int .u8 239, .int .u8 128, .int .u8 191, .int .u8 224, .int .i64 3] rfl rfl 51 #[.int .u8 0, .int .u8 0, .int .u8 0, .int .u8 0, .int .u8 0, .int .i64 0] HZ1.out hi6.out rfl (by kernel_rfl) ?_))
          (try simp only [Exit.inBlock, Exit.then])
          refine ⟨rfl, _, results_row_tmp rfl _ _ w.heap.size 51 #[.int .u8 238, .int .u8 239, .int .u8 128, .int .u8 191, .int .u8 224, .int .i64 3] (0, 0) _ rfl (setRow_heap _ _ _ _ _ _ HZ1.out) Tryd.underlying51 rfl hi6.out, ?_⟩
          exact ⟨below_row (bel.trans ((below_alloc wr _).mono bel.size)) (Nat.le_refl _) _, Or.inl ⟨5, by omega, ⟨h2, h3⟩, rfl⟩⟩
        · have h3z : ¬ (b : Int) ≤ 239 := by omega
          go_wp2_with fail
          go_roundg (100 - 6)
          case measure => omega
          case rel => exact ⟨bel.trans ((below_alloc wr _).mono bel.size), (heap_alloc_old wr _ hlt).trans HZ.out, 6, by go_num, by omega, rfl, fits_not hF (fun h => h3 h.2)⟩
      · have h2z : ¬ (238 : Int) ≤ (b : Int) := by omega
        go_wp2_with fail
        go_roundg (100 - 6)
        case measure => omega
        case rel => exact ⟨bel.trans ((below_alloc wr _).mono bel.size), (heap_alloc_old wr _ hlt).trans HZ.out, 6, by go_num, by omega, rfl, fits_not hF (fun h => h2 h.1)⟩
    · have ix := i6.out
      have HZ1 : Hid ((wr.alloc (.cells #[.int .u8 240, .int .u8 240, .int .u8 144, .int .u8 191, .int .u8 240, .int .i64 4] 51)).heap[w.heap.size]? = some (.cells #[.int .u8 0, .int .u8 0, .int .u8 0, .int .u8 0, .int .u8 0, .int .i64 0] 51)) := (heap_alloc_old wr _ hlt).trans HZ.out
      by_cases h2 : 240 ≤ b
      · have h2z : (240 : Int) ≤ (b : Int) := by omega
        by_cases h3 : b ≤ 240
        · have h3z : (b : Int) ≤ 240 := by omega
          go_wp2_with (first
            | (refine wpList_load_row rfl 51 (.tmp 5) rfl wr.heap.size rfl 51 #[.int .u8 240, .int .u8 240, .int .u8 144, .int .u8 191, .int .u8 240, .int .i64 4] (0, 0) _ (heap_alloc_new wr _) Tryd.underlying51 rfl hi6.out ?_)
            | (refine wpList_store_row rfl 51 (.tmp 2) (.tmp 20) rfl w.heap.size #[.int .u8 240, .int .u8 240, .int .u8 144, .int .u8 191, .int .u8 240, .int .i64 4] rfl rfl 51 #[.int .u8 0, .int .u8 0, .int .u8 0, .int .u8 0, .int .u8 0, .int .i64 0] HZ1.out hi6.out rfl (by kernel_rfl) ?_))
          (try simp only [Exit.inBlock, Exit.then])
          refine ⟨rfl, _, results_row_tmp rfl _ _ w.heap.size 51 #[.int .u8 240, .int .u8 240, .int .u8 144, .int .u8 191, .int .u8 240, .int .i64 4] (0, 0) _ rfl (setRow_heap _ _ _ _ _ _ HZ1.out) Tryd.underlying51 rfl hi6.out, ?_⟩
          exact ⟨below_row (bel.trans ((below_alloc wr _).mono bel.size)) (Nat.le_refl _) _, Or.inl ⟨6, by omega, ⟨h2, h3⟩, rfl⟩⟩
        · have h3z : ¬ (b : Int) ≤ 240 := by omega
          go_wp2_with fail
          go_roundg (100 - 7)
          case measure => omega
          case rel => exact ⟨bel.trans ((below_alloc wr _).mono bel.size), (heap_alloc_old wr _ hlt).trans HZ.out, 7, by go_num, by omega, rfl, fits_not hF (fun h => h3 h.2)⟩
      · have h2z : ¬ (240 : Int) ≤ (b : Int) := by omega
        go_wp2_with fail
        go_roundg (100 - 7)
        case measure => omega
        case rel => exact ⟨bel.trans ((below_alloc wr _).mono bel.size), (heap_alloc_old wr _ hlt).trans HZ.out, 7, by go_num, by omega, rfl, fits_not hF (fun h => h2 h.1)⟩
    · have ix := i7.out
      have HZ1 : Hid ((wr.alloc (.cells #[.int .u8 241, .int .u8 243, .int .u8 128, .int .u8 191, .int .u8 240, .int .i64 4] 51)).heap[w.heap.size]? = some (.cells #[.int .u8 0, .int .u8 0, .int .u8 0, .int .u8 0, .int .u8 0, .int .i64 0] 51)) := (heap_alloc_old wr _ hlt).trans HZ.out
      by_cases h2 : 241 ≤ b
      · have h2z : (241 : Int) ≤ (b : Int) := by omega
        by_cases h3 : b ≤ 243
        · have h3z : (b : Int) ≤ 243 := by omega
          go_wp2_with (first
            | (refine wpList_load_row rfl 51 (.tmp 5) rfl wr.heap.size rfl 51 #[.int .u8 241, .int .u8 243, .int .u8 128, .int .u8 191, .int .u8 240, .int .i64 4] (0, 0) _ (heap_alloc_new wr _) Tryd.underlying51 rfl hi6.out ?_)
            | (refine wpList_store_row rfl 51 (.tmp 2) (.tmp 20) rfl w.heap.size #[.int .u8 241, .int .u8 243, .int .u8 128, .int .u8 191, .int .u8 240, .int .i64 4] rfl rfl 51 #[.int .u8 0, .int .u8 0, .int .u8 0, .int .u8 0, .int .u8 0, .int .i64 0] HZ1.out hi6.out rfl (by kernel_rfl) ?_))
          (try simp only [Exit.inBlock, Exit.then])
          refine ⟨rfl, _, results_row_tmp rfl _ _ w.heap.size 51 #[.int .u8 241, .int .u8 243, .int .u8 128, .int .u8 191, .int .u8 240, .int .i64 4] (0, 0) _ rfl (setRow_heap _ _ _ _ _ _ HZ1.out) Tryd.underlying51 rfl hi6.out, ?_⟩
          exact ⟨below_row (bel.trans ((below_alloc wr _).mono bel.size)) (Nat.le_refl _) _, Or.inl ⟨7, by omega, ⟨h2, h3⟩, rfl⟩⟩
        · have h3z : ¬ (b : Int) ≤ 243 := by omega
          go_wp2_with fail
          go_roundg (100 - 8)
          case measure => omega
          case rel => exact ⟨bel.trans ((below_alloc wr _).mono bel.size), (heap_alloc_old wr _ hlt).trans HZ.out, 8, by go_num, by omega, rfl, fits_not hF (fun h => h3 h.2)⟩
      · have h2z : ¬ (241 : Int) ≤ (b : Int) := by omega
        go_wp2_with fail
        go_roundg (100 - 8)
        case measure => omega
        case rel => exact ⟨bel.trans ((below_alloc wr _).mono bel.size), (heap_alloc_old wr _ hlt).trans HZ.out, 8, by go_num, by omega, rfl, fits_not hF (fun h => h2 h.1)⟩
    · have ix := i8.out
      have HZ1 : Hid ((wr.alloc (.cells #[.int .u8 244, .int .u8 244, .int .u8 128, .int .u8 143, .int .u8 240, .int .i64 4] 51)).heap[w.heap.size]? = some (.cells #[.int .u8 0, .int .u8 0, .int .u8 0, .int .u8 0, .int .u8 0, .int .i64 0] 51)) := (heap_alloc_old wr _ hlt).trans HZ.out
      by_cases h2 : 244 ≤ b
      · have h2z : (244 : Int) ≤ (b : Int) := by omega
        by_cases h3 : b ≤ 244
        · have h3z : (b : Int) ≤ 244 := by omega
          go_wp2_with (first
            | (refine wpList_load_row rfl 51 (.tmp 5) rfl wr.heap.size rfl 51 #[.int .u8 244, .int .u8 244, .int .u8 128, .int .u8 143, .int .u8 240, .int .i64 4] (0, 0) _ (heap_alloc_new wr _) Tryd.underlying51 rfl hi6.out ?_)
            | (refine wpList_store_row rfl 51 (.tmp 2) (.tmp 20) rfl w.heap.size #[.int .u8 244, .int .u8 244, .int .u8 128, .int .u8 143, .int .u8 240, .int .i64 4] rfl rfl 51 #[.int .u8 0, .int .u8 0, .int .u8 0, .int .u8 0, .int .u8 0, .int .i64 0] HZ1.out hi6.out rfl (by kernel_rfl) ?_))
          (try simp only [Exit.inBlock, Exit.then])
          refine ⟨rfl, _, results_row_tmp rfl _ _ w.heap.size 51 #[.int .u8 244, .int .u8 244, .int .u8 128, .int .u8 143, .int .u8 240, .int .i64 4] (0, 0) _ rfl (setRow_heap _ _ _ _ _ _ HZ1.out) Tryd.underlying51 rfl hi6.out, ?_⟩
          exact ⟨below_row (bel.trans ((below_alloc wr _).mono bel.size)) (Nat.le_refl _) _, Or.inl ⟨8, by omega, ⟨h2, h3⟩, rfl⟩⟩
        · have h3z : ¬ (b : Int) ≤ 244 := by omega
          go_wp2_with fail
          go_roundg (100 - 9)
          case measure => omega
          case rel => exact ⟨bel.trans ((below_alloc wr _).mono bel.size), (heap_alloc_old wr _ hlt).trans HZ.out, 9, by go_num, by omega, rfl, fits_not hF (fun h => h3 h.2)⟩
      · have h2z : ¬ (244 : Int) ≤ (b : Int) := by omega
        go_wp2_with fail
        go_roundg (100 - 9)
        case measure => omega
        case rel => exact ⟨bel.trans ((below_alloc wr _).mono bel.size), (heap_alloc_old wr _ hlt).trans HZ.out, 9, by go_num, by omega, rfl, fits_not hF (fun h => h2 h.1)⟩
    · go_wp2_with (first
        | (refine wpList_store_row rfl 51 (.tmp 2) (.tmp 22) rfl w.heap.size #[.int .u8 0, .int .u8 0, .int .u8 0, .int .u8 0, .int .u8 0, .int .i64 0] rfl rfl 51 #[.int .u8 0, .int .u8 0, .int .u8 0, .int .u8 0, .int .u8 0, .int .i64 0] HZ.out hi6.out rfl (by kernel_rfl) ?_))
      (try simp only [Exit.inBlock, Exit.then])
      refine ⟨rfl, _, results_row_tmp rfl _ _ w.heap.size 51 #[.int .u8 0, .int .u8 0, .int .u8 0, .int .u8 0, .int .u8 0, .int .i64 0] (0, 0) _ rfl (setRow_heap _ _ _ _ _ _ HZ.out) Tryd.underlying51 rfl hi6.out, ?_⟩
      exact ⟨below_row bel (Nat.le_refl _) _, Or.inr ⟨hF.out, rfl⟩⟩
end Go.Proofs.YtgnalnppjhgmjaaDoor
