/- Contracts of the two functions that make the rows: class.rows (an array of structs) and stickfulref04.rows (a slice of arrays of three numbers). No condition. -/
import Derived.Test.YtnoenccpbbkdeaaGG
namespace Go.Proofs.Ytnoenccpbbkdeaa
open Go.ChangeShapes Go.WideShapes Go.ChangeAt Go.RowKit

/-- the program's table, cell for cell -/
def tcells : Array Value := (crows.flatMap fun x => [.int .i32 x.1, .int .i32 x.2.1, .int .u8 x.2.2]).toArray
/-- the document's rows, cell for cell -/
def rcells : Array Value := (rrows.flatMap fun x => [.int .i32 x.1, .int .i32 x.2.1, .int .i32 x.2.2]).toArray
def tzero : Array Value := (crows.flatMap fun _ => [.int .i32 0, .int .i32 0, .int .u8 0]).toArray

set_option maxRecDepth 1000000 in
set_option maxHeartbeats 4000000 in
theorem rows_any (w : World) : Calls Try.prog 48 #[] w fun e w' => e = .returned (.agg tcells) ∧ Below w.heap.size w w' := by
  go_enter Try.func48, Try.ntmps48
  go_step
  go_step
  go_step
  refine Go.Great.wpList_allocTo rfl (some 0) rfl (.pointer (some ⟨w.heap.size, 0, none⟩)) (.cells tzero 78) (by kernel_rfl) ?_
  refine wpList_nil ?_
  rename_i Q1 K1 hk
  refine hk _ _ ?_
  clear hk K1
  apply wp_seq_k
  intro K1 hk
  refine wp_region_list ?_
  refine wpList_builds 189 (fun a' => (a'.tmps[0]?, a'.tmps[189]?, a'.defers, a'.tmps.size)) (some (.pointer (some ⟨w.heap.size, 0, none⟩)), some (.agg tcells), [], 190) (by kernel_rfl) ?_
  intro a' hF
  simp only [Prod.mk.injEq] at hF
  obtain ⟨f0, f1, f2, f3⟩ := hF
  change wpList _ _ _ [_] _ _
  refine wpList_store_row rfl 78 (.tmp 0) (.tmp 189) rfl w.heap.size tcells (by simp [Act.eval, f0]) (by simp [Act.eval, f1]) 78 tzero (heap_alloc_new w _) (by kernel_rfl) (by kernel_rfl) (by kernel_rfl) ?_
  refine wpList_nil ?_
  refine hk _ _ ?_
  clear hk K1
  apply wp_ret
  refine bodyPost_ret (v := .agg tcells) (results_cell_row rfl _ _ w.heap.size 78 tcells (0, 0) _ (by simp [Act.put, f0]) (setRow_heap _ _ _ _ _ _ (heap_alloc_new w _)) Try.underlying78 rfl (by kernel_rfl)) f2 ⟨rfl, ?_⟩
  exact (below_alloc w _).trans ⟨rfl, rfl, rfl, by simp, fun k hk => setRow_other _ _ _ _ (by omega)⟩

def rtmps : Array Value := (#[Value.slice none 0 0] ++ (rrows.map fun (x : CRow) => Value.agg #[.int .i32 x.1, .int .i32 x.2.1, .int .i32 x.2.2]).toArray).push undef

set_option maxRecDepth 1000000 in
set_option maxHeartbeats 4000000 in
theorem rrows_any (w : World) : Calls Try.prog 50 #[] w fun e w' => e = .returned (.slice (some ⟨w.heap.size, 0, none⟩) 188 188) ∧ w' = w.alloc (.cells rcells 82) := by
  go_enter Try.func50, Try.ntmps50
  go_step
  go_step
  go_step
  refine Go.Great.wpList_readTo rfl (some 0) rfl (.slice none 0 0) (by kernel_rfl) ?_
  refine wpList_nil ?_
  rename_i Q1 K1 hk
  refine hk _ _ ?_
  clear hk K1
  apply wp_seq_k
  intro K1 hk
  refine wp_region_list ?_
  refine wpList_builds 188 (fun a' => a') ⟨rtmps, []⟩ (by kernel_rfl) ?_
  rintro a' rfl
  change wpList _ _ _ [_, _] _ _
  refine Go.Great.wpList_buildSliceTo rfl 80 82 188 _ rfl w.heap.size rfl (some 189) rfl Try.underlying80 rcells (by kernel_rfl) ?_
  refine Go.Great.wpList_readTo rfl (some 0) rfl (.slice (some ⟨w.heap.size, 0, none⟩) 188 188) (by kernel_rfl) ?_
  refine wpList_nil ?_
  refine hk _ _ ?_
  clear hk K1
  apply wp_ret
  refine bodyPost_ret (v := .slice (some ⟨w.heap.size, 0, none⟩) 188 188) ?_ rfl ⟨rfl, rfl⟩
  refine (results_tmp (t := 0) rfl _ _ _).trans ?_
  kernel_rfl
end Go.Proofs.Ytnoenccpbbkdeaa
