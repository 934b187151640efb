/- Contracts of class.Name and of the document's Name. Condition: the class is a byte. -/
import Derived.Test.YtgmdechhghbmpaaDoorCMath
import Derived.Test.YtgmdechhghbmpaaDoorBase
import Derived.Great.BuildSlice
import Derived.Great.Walk
namespace Go.Proofs.YtgmdechhghbmpaaDoor
open Go.ChangeShapes Go.WideShapes Go.ChangeAt Go.RowKit

/-- the name of a class, as a text -/
def nm (c : Nat) : ByteArray := ⟨((nameOf c).map UInt8.ofNat).toArray⟩
theorem nm_sizeB : (List.range 27).all (fun c => (nm c).size == 2) = true := by decide +kernel
theorem nm_size (c : Nat) (h : c < 27) : (nm c).size = 2 := eq_of_beq (List.all_eq_true.1 nm_sizeB c (by simpa using h))
theorem nm_sameB : (List.range 27).all (fun a => (List.range 27).all fun b => ((nm a).toList == (nm b).toList) == decide (a = b)) = true := by decide +kernel
theorem nm_same (a b : Nat) (ha : a < 27) (hb : b < 27) : ((nm a).toList == (nm b).toList) = decide (a = b) :=
  eq_of_beq (List.all_eq_true.1 (List.all_eq_true.1 nm_sameB a (by simpa using ha)) b (by simpa using hb))
theorem nm_none (c : Nat) (h : ¬ c < 27) : nm c = ByteArray.empty := by
  unfold nm nameOf
  rw [List.getElem?_eq_none (by simp; omega)]
  rfl

/-- all the names, one behind the other -/
def allNames : ByteArray := ⟨#[65, 76, 66, 75, 67, 82, 76, 70, 78, 76, 83, 80, 90, 87, 87, 74, 71, 76, 67, 77, 66, 65, 66, 66, 66, 50, 72, 89, 79, 80, 67, 76, 81, 85, 69, 88, 73, 83, 78, 83, 67, 74, 73, 78, 78, 85, 80, 82, 80, 79, 73, 68, 67, 66]⟩
theorem nm_cutB : (List.range 27).all (fun c => (allNames.extract (2 * c) (2 * c + 2)).data.toList == (nm c).data.toList) = true := by decide +kernel
theorem nm_cut (c : Nat) (h : c < 27) : allNames.extract (2 * c) (2 * c + 2) = nm c := by
  have := eq_of_beq (List.all_eq_true.1 nm_cutB c (by simpa using h))
  generalize allNames.extract (2 * c) (2 * c + 2) = x at *
  generalize nm c = y at *
  cases x; cases y
  congr 1
  exact Array.toList_inj.1 this

set_option maxRecDepth 100000 in
set_option maxHeartbeats 1000000 in
theorem cname_any (c : Nat) (w : World) (hc : c ≤ 255) :
    Calls Tryd.prog 14 #[.int .u8 c] w fun e w' => e = .returned (.string (nm c)) ∧ w = w' := by
  by_cases h : c < 27
  · have hz : (c : Int) < 27 := by omega
    have E := Lib.hid (nm_cut c h)
    go_enter Tryd.func14, Tryd.ntmps14
    go_wp2_with fail
    go_ret
    refine ⟨rets ?_, rfl⟩
    rw [← E.out]
    unfold allNames
    first
      | rfl
      | (congr 1 <;> omega)
  · have hz : ¬ (c : Int) < 27 := by omega
    rw [nm_none c h]
    go_enter Tryd.func14, Tryd.ntmps14
    go_wp2_with fail
    go_ret
    exact ⟨rfl, rfl⟩

def ncells : Array Value := ((List.range 27).map fun c => Value.string (nm c)).toArray
theorem ncells_at (c : Nat) (h : c < 27) : ncells[c]? = some (.string (nm c)) := by
  unfold ncells
  simp [h]

set_option maxRecDepth 100000 in
set_option maxHeartbeats 1000000 in
theorem rname_any (c : Nat) (w : World) (hc : c ≤ 255) :
    Calls Tryd.prog 15 #[.int .u8 c] w fun e w' => e = .returned (.string (nm c)) ∧ Below w.heap.size w w' := by
  have HB : Hid (Below w.heap.size w (w.alloc (.cells ncells 9))) := below_alloc w _
  have HC : Hid (∀ j, (w.alloc (.cells ncells 9)).cell? ⟨w.heap.size, j, none⟩ = ncells[j]?) := fun j => World.cell?_alloc_new w ncells 9 j
  go_enter Tryd.func15, Tryd.ntmps15
  go_step
  go_step
  go_step
  refine Go.Great.wpList_readTo rfl (some 2) rfl (.string ByteArray.empty) (by kernel_rfl) ?_
  refine wpList_nil ?_
  rename_i Q1 K1 hk
  refine hk _ _ ?_
  clear hk K1
  apply wp_seq_k
  intro K1 hk
  apply wp_region_lit
  refine Go.Great.wpList_buildSliceTo rfl 45 9 27 _ rfl w.heap.size rfl (some 4) rfl Tryd.underlying45 ncells (by kernel_rfl) ?_
  generalize hw1 : w.alloc (.cells ncells 9) = w1
  rw [hw1] at HB HC
  clear hw1
  refine Go.Great.wpList_readTo rfl (some 3) rfl (.slice (some ⟨w.heap.size, 0, none⟩) 27 27) (by kernel_rfl) ?_
  refine wpList_nil ?_
  refine hk _ _ ?_
  clear hk K1
  by_cases h : c < 27
  · have hz : (c : Int) < 27 := by omega
    have hcell := (HC.out c).trans (ncells_at c h)
    simp only [Act.put, List.setIfInBounds_toArray, List.set_cons_succ, List.set_cons_zero]
    go_wp2_with fail
    go_ret
    exact ⟨rfl, HB.out⟩
  · have hz : ¬ (c : Int) < 27 := by omega
    simp only [Act.put, List.setIfInBounds_toArray, List.set_cons_succ, List.set_cons_zero]
    go_wp2_with fail
    go_ret
    exact ⟨rets (nm_none c h).symm, HB.out⟩
end Go.Proofs.YtgmdechhghbmpaaDoor
