/- Contracts of class.Of and class.Mark. No condition. -/
import Derived.Test.YtgmdechhghbmpaaDoorCCls
namespace Go.Proofs.YtgmdechhghbmpaaDoor
open Go.ChangeShapes Go.WideShapes Go.ChangeAt Go.RowKit

/-- the table that a caller has stored -/
theorem stored (w1 : World) : TabAt ((w1.alloc (.cells tzero 34)).setRow w1.heap.size tcells) w1.heap.size ∧ Below w1.heap.size w1 ((w1.alloc (.cells tzero 34)).setRow w1.heap.size tcells) :=
  ⟨setRow_heap _ _ _ _ _ _ (heap_alloc_new w1 _), (below_alloc w1 _).trans ⟨rfl, rfl, rfl, by simp, fun k hk => setRow_other _ _ _ _ (by omega)⟩⟩

set_option maxRecDepth 100000 in
set_option maxHeartbeats 2000000 in
theorem cof_any (r : Int) (w : World) :
    Calls Tryd.prog 7 #[.int .i32 r] w fun e w' => e = .returned (.int .u8 (clsOf r)) ∧ Below w.heap.size w w' := by
  go_enter Tryd.func7, Tryd.ntmps7
  go_wp2_with fail
  refine (rows_any _).mono ?_
  rintro e w1 ⟨rfl, b1⟩
  rename_i Q K1 h1 K2 h2
  refine h2 _ _ ?_
  clear h2 K2
  refine Go.Great.wpList_allocTo rfl (some 3) rfl (.pointer (some ⟨w1.heap.size, 0, none⟩)) (.cells tzero 34) (by kernel_rfl) ?_
  refine wpList_store_row rfl 34 (.tmp 3) (.tmp 4) rfl w1.heap.size tcells rfl rfl 34 tzero (heap_alloc_new w1 _) (by kernel_rfl) (by kernel_rfl) (by kernel_rfl) ?_
  obtain ⟨t2, b2⟩ := stored w1
  generalize (w1.alloc (.cells tzero 34)).setRow w1.heap.size tcells = w2 at *
  refine wpList_nil ?_
  refine h1 _ _ ?_
  clear h1 K1
  go_wp2_with fail
  refine (cclass_any _ r _ t2).mono ?_
  rintro e w3 ⟨rfl, b3⟩
  go_wp2_with fail
  go_ret
  exact ⟨rfl, below_seq b1 (below_seq b2 b3)⟩

set_option maxRecDepth 100000 in
set_option maxHeartbeats 2000000 in
theorem cmark_any (r : Int) (w : World) (b : Bool) (hb : (clsOf r == 9) = b) :
    Calls Tryd.prog 9 #[.int .i32 r] w fun e w' => e = .returned (.bool b) ∧ Below w.heap.size w w' := by
  have C : Hid (∀ w : World, Calls Tryd.prog 7 #[.int .i32 r] w fun e w' => e = .returned (.int .u8 (clsOf r)) ∧ Below w.heap.size w w') := cof_any r
  obtain ⟨c, hc⟩ : ∃ c, clsOf r = c := ⟨_, rfl⟩
  rw [hc] at C hb
  clear hc
  go_enter Tryd.func9, Tryd.ntmps9
  go_wp2_with fail
  refine (C.out _).mono ?_
  rintro e w1 ⟨rfl, b1⟩
  go_wp2_with fail
  go_ret
  exact ⟨retb (by simp), b1⟩
end Go.Proofs.YtgmdechhghbmpaaDoor
