/- Contracts of arena's Styles and Walk where there is no tree, or no such node. Condition: what the pointer leads to is none, or a tree. -/
import Derived.Test.YtgpobhnonjdamaaDoorArGood
import Derived.Test.YtgpobhnonjdamaaDoorApG
namespace Go.Proofs.YtgpobhnonjdamaaDoor
open Go.ChangeShapes Go.WideShapes Go.ChangeAt Go.RowKit

set_option maxRecDepth 100000 in
set_option maxHeartbeats 1000000 in
theorem astyles_no (v : Value) (base : Sty) (w : World) (h : LenIs w v 0) :
    Calls Tryd.prog 23 #[v, .agg base.cells] w fun e w' => e = .returned (.tuple #[.slice none 0 0, .int .i64 1]) ∧ Below w.heap.size w w' := by
  have C : Hid (∀ W, Below w.heap.size w W → Calls Tryd.prog 31 #[v] W fun e w' => e = .returned (.int .i64 ((0 : Nat) : Int)) ∧ W = w') := Lib.hid fun W b => alen_any v 0 W (h.below b)
  clear h
  go_enter Tryd.func23, Tryd.ntmps23
  go_wp2_with (refine bxSV rfl (.tmp 1) rfl base rfl ?_; intro w1 b1 B1)
  refine (C.out _ b1).mono ?_
  rintro e w2 ⟨rfl, rfl⟩
  go_wp2_with fail
  go_ret2
  exact ⟨rfl, b1⟩

set_option maxRecDepth 100000 in
set_option maxHeartbeats 1000000 in
theorem awalk_no (v : Value) (n : Nat) (k : Int) (w : World) (h : LenIs w v n) (hf : fndE n k ≠ 0) :
    Calls Tryd.prog 26 #[v, .int .i64 k] w fun e w' => e = .returned (.slice none 0 0) ∧ w = w' := by
  have C := Lib.hid (afind_any v n k w h)
  obtain ⟨f, hff⟩ : ∃ f, fndE n k = f := ⟨_, rfl⟩
  rw [hff] at C hf
  clear h hff
  go_enter Tryd.func26, Tryd.ntmps26
  go_wp2_with fail
  refine C.out.mono ?_
  rintro e w2 ⟨rfl, rfl⟩
  go_wp2_with fail
  go_ret
  exact ⟨rfl, rfl⟩

/-- boxes in boxes -/
def chB (i : Nat) : Nod := { Nod.zero with k := 2, p := (i : Int) }
def ch (n : Nat) : List Nod := { Nod.zero with p := -1 } :: (List.range n).map chB
theorem ch_snoc (n : Nat) : ch (n + 1) = ch n ++ [chB n] := by
  unfold ch
  rw [List.range_succ, List.map_append]
  rfl
theorem ch_len (n : Nat) : (ch n).length = n + 1 := by simp [ch]
theorem ch_chk : ∀ n, n < 81 → chkT (ch n) = if n ≤ 64 then 0 else 71 := by decide +kernel
theorem ch_wf : ∀ n, WfL (ch n) := fun n i x hx => by
  have hm := List.mem_of_getElem? hx
  unfold ch at hm
  rcases List.mem_cons.1 hm with rfl | hm
  · exact ⟨by decide, by decide, by decide, by decide, by decide⟩
  · obtain ⟨j, _, rfl⟩ := List.mem_map.1 hm
    exact ⟨by show (0 : Int) ≤ 2; decide, by show (2 : Int) ≤ 255; decide, by show (0 : Nat) < 65536; decide, by show (0 : Nat) ≤ 9223372036854775807; decide, by show (0 : Int) ≤ 0; decide⟩
end Go.Proofs.YtgpobhnonjdamaaDoor
