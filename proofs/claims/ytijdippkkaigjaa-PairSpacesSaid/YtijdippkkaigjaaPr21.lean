/- Contracts of the laws' head and great; of Rules, Breaks, Must with the form of the slice; bool literals. No conditions but those of the parts. -/
import Derived.Test.YtijdippkkaigjaaPr14
namespace Go.Proofs.Ytijdippkkaigjaa
open Go.ChangeShapes Go.WideShapes Go.ChangeAt Go.RowKit Go.Shelf
open Pr

theorem rb_lit (w : World) (l : List Bool) (t : TypeId) (n : Nat) (cs : Array Value) (hn : l.length = n) (hc : cs = (rb l).toArray) : RB (w.alloc (.cells cs t)) (.slice (some ⟨w.heap.size, 0, none⟩) n n) l := by
  subst hc hn
  have B := Blk.new w t (rb l).toArray
  refine .inr ⟨⟨w.heap.size, 0, none⟩, l.length, by rw [rb_len], .inr ⟨B.lt, id⟩, fun j u hj => ?_⟩
  have e : (⟨w.heap.size, 0, none⟩ : Addr).add j = ⟨w.heap.size, j, none⟩ := by simp [Addr.add]; exact fun h => h.symm
  rw [e, B.cell j]
  simpa using hj
theorem psame8_is (l m : List Int) (v1 v2 : Value) (w : World) (h1 : R8 w v1 l) (h2 : R8 w v2 m) (hm : l = m) (hn : l.length ≤ 1048576) :
    Calls Try.prog 12 #[v1, v2] w fun e w' => e = .returned (.bool true) ∧ Below w.heap.size w w' := by
  subst hm
  exact psame8 l v1 v2 w h1 h2 hn
theorem psameB_is (l m : List Bool) (v1 v2 : Value) (w : World) (h1 : RB w v1 l) (h2 : RB w v2 m) (hm : l = m) (hn : l.length ≤ 1048576) :
    Calls Try.prog 14 #[v1, v2] w fun e w' => e = .returned (.bool true) ∧ Below w.heap.size w w' := by
  subst hm
  exact psameB l v1 v2 w h1 h2 hn
set_option maxHeartbeats 2000000 in
theorem pRulesG_any (l : List Int) (v : Value) (w : World) (hR : R8 w v l) (hlen : l.length ≤ 1048576) (h0 : ∀ c ∈ l, 0 ≤ c) :
    Calls Try.prog 13 #[v] w fun e w' => ∃ G, e = .returned (.slice (some ⟨G, 0, none⟩) l.length l.length) ∧ R8 w' (.slice (some ⟨G, 0, none⟩) l.length l.length) (rulesL l) ∧ Below w.heap.size w w' := by
  have C := Lib.hid (ptell8_any 20 (fun x => x.1) (enters_of Try.func20 (by kernel_rfl) rfl) ptoldR_any l v w hR hlen)
  have HT : Hid (∀ G w', Blk w' G 5 (rowV l.length (got (.int .u8 0) (fun j => .int .u8 (vdAt l j).1) (List.range' 1 (l.length - 1)))) → R8 w' (.slice (some ⟨G, 0, none⟩) l.length l.length) (rulesL l)) := Lib.hid fun G w' B =>
    row_of_blk B (by rw [r8_len, rulesL_len]) (told_is h0 (0 : Int) (fun x => x.1) (Value.int .u8) rfl)
  clear hR
  go_enter Try.func13, Try.ntmps13
  go_wp2_with fail
  refine (C.out).mono ?_
  rintro e w1 ⟨G, rfl, _, B, b⟩
  have hr := HT.out G w1 B
  clear C HT B
  go_wp2_with fail
  go_ret
  exact ⟨_, rfl, hr, b⟩
set_option maxHeartbeats 2000000 in
theorem pBreaksG_any (l : List Int) (v : Value) (w : World) (hR : R8 w v l) (hlen : l.length ≤ 1048576) (h0 : ∀ c ∈ l, 0 ≤ c) :
    Calls Try.prog 15 #[v] w fun e w' => ∃ G, e = .returned (.slice (some ⟨G, 0, none⟩) l.length l.length) ∧ RB w' (.slice (some ⟨G, 0, none⟩) l.length l.length) (breaksL l) ∧ Below w.heap.size w w' := by
  have C := Lib.hid (ptellb_any 22 (fun x => x.2) (enters_of Try.func22 (by kernel_rfl) rfl) ptoldB_any l v w hR hlen)
  have HT : Hid (∀ G w', Blk w' G 4 (rowV l.length (got (.bool false) (fun j => .bool (vdAt l j).2) (List.range' 1 (l.length - 1)))) → RB w' (.slice (some ⟨G, 0, none⟩) l.length l.length) (breaksL l)) := Lib.hid fun G w' B =>
    row_of_blk B (by rw [rb_len, breaksL_len]) (told_is h0 (false) (fun x => x.2) Value.bool rfl)
  clear hR
  go_enter Try.func15, Try.ntmps15
  go_wp2_with fail
  refine (C.out).mono ?_
  rintro e w1 ⟨G, rfl, _, B, b⟩
  have hr := HT.out G w1 B
  clear C HT B
  go_wp2_with fail
  go_ret
  exact ⟨_, rfl, hr, b⟩
set_option maxHeartbeats 2000000 in
theorem pMustG_any (l : List Int) (v : Value) (w : World) (hR : R8 w v l) (hlen : l.length ≤ 1048576) (h0 : ∀ c ∈ l, 0 ≤ c) :
    Calls Try.prog 16 #[v] w fun e w' => ∃ G, e = .returned (.slice (some ⟨G, 0, none⟩) l.length l.length) ∧ RB w' (.slice (some ⟨G, 0, none⟩) l.length l.length) (mustL l) ∧ Below w.heap.size w w' := by
  have C := Lib.hid (ptellb_any 23 mst (enters_of Try.func23 (by kernel_rfl) rfl) (fun x w => by rw [← mstI_mst]; exact ptoldM_any x w) l v w hR hlen)
  have HT : Hid (∀ G w', Blk w' G 4 (rowV l.length (got (.bool false) (fun j => .bool (mst (vdAt l j))) (List.range' 1 (l.length - 1)))) → RB w' (.slice (some ⟨G, 0, none⟩) l.length l.length) (mustL l)) := Lib.hid fun G w' B =>
    row_of_blk B (by rw [rb_len, mustL_len]) (told_is h0 (false) mst Value.bool rfl)
  clear hR
  go_enter Try.func16, Try.ntmps16
  go_wp2_with fail
  refine (C.out).mono ?_
  rintro e w1 ⟨G, rfl, _, B, b⟩
  have hr := HT.out G w1 B
  clear C HT B
  go_wp2_with fail
  go_ret
  exact ⟨_, rfl, hr, b⟩
set_option maxHeartbeats 2000000 in
theorem pgreat_any (A : Option Addr) (n c : Nat) (w : World) :
    Calls Try.prog 9 #[.slice A n c] w fun e w' => e = .returned (.bool (decide (120 < n))) ∧ w' = w := by
  go_enter Try.func9, Try.ntmps9
  by_cases h : 120 < n
  · have hz : (120 : Int) < n := by omega
    go_wp2_with fail
    go_ret
    exact ⟨retb (by first | rfl | exact (decide_eq_true h).symm), rfl⟩
  · have hz : ¬ (120 : Int) < n := by omega
    go_wp2_with fail
    go_ret
    exact ⟨retb (by first | rfl | exact (decide_eq_false h).symm), rfl⟩
def hdA : List Int := [0, 9, 5, 14, 5, 0, 15]
def hdB : List Int := [2, 3, 9]
theorem hd_rules : rulesL hdA = [0, 9, 7, 18, 7, 14, 13] := by decide +kernel
theorem hd_breaks : breaksL hdA = [false, false, false, true, false, false, false] := by decide +kernel
theorem hd_rules2 : rulesL hdB = [0, 5, 5] := by decide +kernel
theorem hd_must : mustL hdB = [false, false, true] := by decide +kernel
theorem hdA0 : ∀ c ∈ hdA, 0 ≤ c := by decide
theorem hdB0 : ∀ c ∈ hdB, 0 ≤ c := by decide

set_option maxRecDepth 100000 in
set_option maxHeartbeats 8000000 in
theorem phead_any (w : World) : Calls Try.prog 10 #[] w fun e w' => e = .returned (.bool true) ∧ Below w.heap.size w w' := by
  go_enter Try.func10, Try.ntmps10
  go_wp2_with fail
  have RA := r8_lit w hdA 5 7 _ rfl rfl
  have a1 := below_alloc w (.cells (r8 hdA).toArray 5)
  have bel := a1
  have RC := r8_lit (w.alloc (.cells (r8 hdA).toArray 5)) hdB 5 3 _ rfl rfl
  have a2 := below_alloc (w.alloc (.cells (r8 hdA).toArray 5)) (.cells (r8 hdB).toArray 5)
  have RA := RA.below a2
  have bel := below_seq bel a2
  simp only [World.size_alloc] at RC
  refine (pRules_any hdA _ _ RA (by decide) hdA0).mono ?_
  rintro e w_3 ⟨u1, rfl, S1, d3⟩
  have RA := RA.below d3
  have RC := RC.below d3
  have bel := below_seq bel d3
  go_wp2_with fail
  have T1 := r8_lit w_3 [0, 9, 7, 18, 7, 14, 13] 5 7 _ rfl rfl
  have a4 := below_alloc w_3 (.cells (r8 [0, 9, 7, 18, 7, 14, 13]).toArray 5)
  have RA := RA.below a4
  have RC := RC.below a4
  have S1 := S1.below a4
  have bel := below_seq bel a4
  refine (psame8_is _ _ _ _ _ S1 T1 hd_rules (by decide)).mono ?_
  rintro e w_5 ⟨rfl, d5⟩
  have RA := RA.below d5
  have RC := RC.below d5
  have S1 := S1.below d5
  have T1 := T1.below d5
  have bel := below_seq bel d5
  go_wp2_with fail
  refine (pBreaks_any hdA _ _ RA (by decide) hdA0).mono ?_
  rintro e w_6 ⟨u2, rfl, S2, d6⟩
  have RA := RA.below d6
  have RC := RC.below d6
  have S1 := S1.below d6
  have T1 := T1.below d6
  have bel := below_seq bel d6
  go_wp2_with fail
  have T2 := rb_lit w_6 [false, false, false, true, false, false, false] 4 7 _ rfl rfl
  have a7 := below_alloc w_6 (.cells (rb [false, false, false, true, false, false, false]).toArray 4)
  have RA := RA.below a7
  have RC := RC.below a7
  have S1 := S1.below a7
  have T1 := T1.below a7
  have S2 := S2.below a7
  have bel := below_seq bel a7
  refine (psameB_is _ _ _ _ _ S2 T2 hd_breaks (by decide)).mono ?_
  rintro e w_8 ⟨rfl, d8⟩
  have RA := RA.below d8
  have RC := RC.below d8
  have S1 := S1.below d8
  have T1 := T1.below d8
  have S2 := S2.below d8
  have T2 := T2.below d8
  have bel := below_seq bel d8
  go_wp2_with fail
  refine (pRules_any hdB _ _ RC (by decide) hdB0).mono ?_
  rintro e w_9 ⟨u3, rfl, S3, d9⟩
  have RA := RA.below d9
  have RC := RC.below d9
  have S1 := S1.below d9
  have T1 := T1.below d9
  have S2 := S2.below d9
  have T2 := T2.below d9
  have bel := below_seq bel d9
  go_wp2_with fail
  have T3 := r8_lit w_9 [0, 5, 5] 5 3 _ rfl rfl
  have a10 := below_alloc w_9 (.cells (r8 [0, 5, 5]).toArray 5)
  have RA := RA.below a10
  have RC := RC.below a10
  have S1 := S1.below a10
  have T1 := T1.below a10
  have S2 := S2.below a10
  have T2 := T2.below a10
  have S3 := S3.below a10
  have bel := below_seq bel a10
  refine (psame8_is _ _ _ _ _ S3 T3 hd_rules2 (by decide)).mono ?_
  rintro e w_11 ⟨rfl, d11⟩
  have RA := RA.below d11
  have RC := RC.below d11
  have S1 := S1.below d11
  have T1 := T1.below d11
  have S2 := S2.below d11
  have T2 := T2.below d11
  have S3 := S3.below d11
  have T3 := T3.below d11
  have bel := below_seq bel d11
  go_wp2_with fail
  refine (pMust_any hdB _ _ RC (by decide) hdB0).mono ?_
  rintro e w_12 ⟨u4, rfl, S4, d12⟩
  have RA := RA.below d12
  have RC := RC.below d12
  have S1 := S1.below d12
  have T1 := T1.below d12
  have S2 := S2.below d12
  have T2 := T2.below d12
  have S3 := S3.below d12
  have T3 := T3.below d12
  have bel := below_seq bel d12
  go_wp2_with fail
  have T4 := rb_lit w_12 [false, false, true] 4 3 _ rfl rfl
  have a13 := below_alloc w_12 (.cells (rb [false, false, true]).toArray 4)
  have RA := RA.below a13
  have RC := RC.below a13
  have S1 := S1.below a13
  have T1 := T1.below a13
  have S2 := S2.below a13
  have T2 := T2.below a13
  have S3 := S3.below a13
  have T3 := T3.below a13
  have S4 := S4.below a13
  have bel := below_seq bel a13
  refine (psameB_is _ _ _ _ _ S4 T4 hd_must (by decide)).mono ?_
  rintro e w_14 ⟨rfl, d14⟩
  have RA := RA.below d14
  have RC := RC.below d14
  have S1 := S1.below d14
  have T1 := T1.below d14
  have S2 := S2.below d14
  have T2 := T2.below d14
  have S3 := S3.below d14
  have T3 := T3.below d14
  have S4 := S4.below d14
  have T4 := T4.below d14
  have bel := below_seq bel d14
  go_wp2_with fail
  go_ret
  exact ⟨rfl, bel⟩
end Go.Proofs.Ytijdippkkaigjaa
