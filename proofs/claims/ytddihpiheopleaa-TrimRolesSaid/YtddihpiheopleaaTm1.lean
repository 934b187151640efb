/- Contracts of trim.edge, space, white; of cells and of what it produces. Conditions: at most 1048576 cells; what a round does leaves the iterator's variables. -/
import Derived.Test.YtddihpiheopleaaTmPass
import Derived.Test.YtddihpiheopleaaRangeRow
import Derived.Test.YtddihpiheopleaaOpIn
import Derived.Test.YtddihpiheopleaaRangeStop
import Derived.BigQuiet
namespace Go.Proofs.Ytddihpiheopleaa.Tm
open Go.ChangeShapes Go.WideShapes Go.ChangeAt Go.RowKit Go.Shelf
open Ce

attribute [local go_sem] Oper.semAt_some

theorem edge_any (k : Int) (w : World) : Calls Try.prog 28 #[.int .u8 k] w fun e w' => e = .returned (.bool (decide (k = 7) || (decide (k = 8) || decide (k = 5)))) ∧ w = w' := by
  by_cases h7 : k = 7
  · go_enter Try.func28, Try.ntmps28
    go_wp2_with fail
    go_ret
    exact ⟨retb (by simp [h7]), rfl⟩
  · by_cases h8 : k = 8
    · go_enter Try.func28, Try.ntmps28
      go_wp2_with fail
      go_ret
      exact ⟨retb (by simp [h8]), rfl⟩
    · by_cases h5 : k = 5
      · go_enter Try.func28, Try.ntmps28
        go_wp2_with fail
        go_ret
        exact ⟨retb (by simp [h5]), rfl⟩
      · go_enter Try.func28, Try.ntmps28
        go_wp2_with fail
        go_ret
        exact ⟨retb (by simp [h5, h7, h8]), rfl⟩
theorem space_any (k : Int) (w : World) : Calls Try.prog 25 #[.int .u8 k] w fun e w' => e = .returned (.bool (passB 1 1 k)) ∧ w = w' := by
  have C := Lib.hid (edge_any k w)
  by_cases h1 : k = 1
  · go_enter Try.func25, Try.ntmps25
    go_wp2_with fail
    go_ret
    exact ⟨retb (by simp [passB, h1]), rfl⟩
  · go_enter Try.func25, Try.ntmps25
    go_wp2_with fail
    refine C.out.mono ?_
    rintro e w1 ⟨rfl, rfl⟩
    go_wp2_with fail
    go_ret
    exact ⟨retb (by simp [passB, h1]), rfl⟩
theorem white_any (k : Int) (w : World) : Calls Try.prog 26 #[.int .u8 k] w fun e w' => e = .returned (.bool (passB 1 2 k)) ∧ w = w' := by
  have C := Lib.hid (space_any k w)
  by_cases h2 : k = 2
  · go_enter Try.func26, Try.ntmps26
    go_wp2_with fail
    go_ret
    exact ⟨retb (by simp [passB, h2]), rfl⟩
  · go_enter Try.func26, Try.ntmps26
    go_wp2_with fail
    refine C.out.mono ?_
    rintro e w1 ⟨rfl, rfl⟩
    go_wp2_with fail
    go_ret
    exact ⟨retb (by simp [passB, h2]), rfl⟩

/-- the iterator -/
def itV (b : Nat) : Value := .func (.func 32) #[] #[.pointer (some ⟨b + 1, 0, none⟩), .pointer (some ⟨b, 0, none⟩), .pointer (some ⟨b + 2, 0, none⟩)]
def KI (b : Nat) (v : Value) (x s : Int) : List (Nat × TypeId × Array Value) := [(b, 22, #[v]), (b + 1, 3, #[.int .i64 x]), (b + 2, 3, #[.int .i64 s])]
theorem cells_mk (A : Option Addr) (n cap : Nat) (x s : Int) (w : World) :
    Calls Try.prog 24 #[.slice A n cap, .int .i64 x, .int .i64 s] w fun e w' => e = .returned (itV w.heap.size) ∧ Kn w' (KI w.heap.size (.slice A n cap) x s) ∧ w'.heap.size = w.heap.size + 3 ∧ Below w.heap.size w w' := by
  go_enter Try.func24, Try.ntmps24
  go_wp2_with fail
  go_ret
  have K0 := Blk.new w 22 #[.slice A n cap]
  have K1 := Blk.new (w.alloc (.cells #[.slice A n cap] 22)) 3 #[.int .i64 x]
  have K2 := Blk.new ((w.alloc (.cells #[.slice A n cap] 22)).alloc (.cells #[.int .i64 x] 3)) 3 #[.int .i64 s]
  simp only [World.size_alloc] at K1 K2
  refine ⟨rfl, fun y hy => ?_, by simp, ((below_alloc _ _).alloc (by simp) _).alloc (by simp; omega) _⟩
  simp only [KI, List.mem_cons, List.not_mem_nil, or_false] at hy
  rcases hy with rfl | rfl | rfl
  · exact (K0.alloc _).alloc _
  · exact K1.alloc _
  · exact K2

def atV (d : Bool) (n : Nat) : Int := if d = true then 0 else (n : Int) - 1
def stV (d : Bool) : Int := if d = true then 1 else -1
/-- where the loop stands -/
def stand (d : Bool) (n m : Nat) (z : Int) : Prop := z = if d = true then (m : Int) else (n : Int) - 1 - m
theorem stand_step {d : Bool} {n m : Nat} {z : Int} (h : stand d n m z) : stand d n (m + 1) (z + stV d) := by
  unfold stand stV at *
  split <;> simp_all <;> omega
theorem stand_bd {d : Bool} {n m : Nat} {z : Int} (h : stand d n m z) (hm : m ≤ n) : -1 ≤ z ∧ z ≤ n := by
  unfold stand at h
  split at h <;> omega
theorem stand_in {d : Bool} {n m : Nat} {z : Int} (h : stand d n m z) (hm : m < n) : 0 ≤ z ∧ z < n ∧ z = (pos d n m : Nat) := by
  unfold stand at h
  unfold pos
  split at h <;> rename_i hd
  · rw [if_pos hd]; omega
  · rw [if_neg hd]; omega
theorem stand_end {d : Bool} {n : Nat} {z : Int} (h : stand d n n z) : ¬ 0 ≤ z ∨ 0 ≤ z ∧ ¬ z < n := by
  unfold stand at h
  split at h <;> omega

set_option maxRecDepth 100000 in
set_option maxHeartbeats 2000000 in
theorem cells_in (f b lp : Nat) (d : Bool) (n cap : Nat) (A : Option Addr) (w0 : World) (I : List Nat → World → Prop) (J X : World → Prop) (hn : n ≤ 1048576)
    (hI : ∀ pre Y Z, I pre Y → Below Y.heap.size Y Z → I pre Z)
    (hS : ∀ pre Y, I pre Y → Kn Y (KI b (.slice A n cap) (atV d n) (stV d)))
    (hY : ∀ (m : Nat) pre x W, I pre W → (pre.length < n ∧ x = pos d n pre.length) → YieldAt Fence.wide m Try.prog lp #[.int .i64 (x : Int)] W fun e W' => e = .returned (.bool true) ∧ I (pre ++ [x]) W' ∨ e = .returned (.bool false) ∧ X W')
    (hJ : ∀ pre Y, pre.length = n → I pre Y → J Y)
    (h0 : I [] w0) :
    CallsIn Fence.wide f Try.prog 32 (#[.func (.yield lp) #[] #[]] ++ #[.pointer (some ⟨b + 1, 0, none⟩), .pointer (some ⟨b, 0, none⟩), .pointer (some ⟨b + 2, 0, none⟩)]) w0 fun e W' => (∃ v, e = .returned v) ∧ (J W' ∨ X W') := by
  have HI := Lib.hid hI
  have HS := Lib.hid hS
  have HY := Lib.hid hY
  have HJ := Lib.hid hJ
  have H0 := Lib.hid h0
  have k0 := hS [] w0 h0
  have c0 : _ = some (Value.slice A n cap) := (k0.at_ 0 rfl).cell 0
  have c1 : _ = some (Value.int .i64 (atV d n)) := (k0.at_ 1 rfl).cell 0
  have c2 : _ = some (Value.int .i64 (stV d)) := (k0.at_ 2 rfl).cell 0
  obtain ⟨z0, hz0⟩ : ∃ z, atV d n = z := ⟨_, rfl⟩
  have hst0 : stand d n 0 z0 := by rw [← hz0]; unfold stand atV; split <;> simp
  obtain ⟨st, hst⟩ : ∃ z, stV d = z := ⟨_, rfl⟩
  have hsb : -1 ≤ st ∧ st ≤ 1 := by rw [← hst]; unfold stV; split <;> omega
  have HST := Lib.hid hst
  have HZ := Lib.hid hz0
  have HST0 := Lib.hid hst0
  have hzb := stand_bd hst0 (Nat.zero_le _)
  rw [hz0] at c1
  rw [hst] at c2
  clear hI hS hY hJ h0 k0 hst0 hst hz0
  refine callsIn_of_wp Try.func32 rfl trivial ?_ rfl
  simp only [Try.ntmps32, List.size_toArray, List.length_cons, List.length_nil, Nat.reduceAdd, Nat.reduceSub, Array.replicate_succ, Array.replicate_zero, List.push_toArray, List.append_toArray, List.nil_append, List.cons_append]
  gi_wp2_with fail
  gi_loopw [5] (fun s5 wr => ∃ (m : Nat) (z : Int) (pre : List Nat), s5 = .int .i64 z ∧ m ≤ n ∧ pre.length = m ∧ -1 ≤ z ∧ z ≤ n ∧ Hid (stand d n m z) ∧ I pre wr)
    (fun s5 _ => if d = true then n - (intOf s5).toNat else (intOf s5 + 1).toNat)
  case atStart => exact ⟨0, z0, [], rfl, Nat.zero_le _, rfl, hzb.1, hzb.2, HST0, H0.out⟩
  case round =>
    obtain ⟨m, z, pre, rfl, hm, hpl, hz1, hz2, HZ1, hP⟩ := hrel
    have k1 := HS.out _ _ hP
    have c0 : _ = some (Value.slice A n cap) := (k1.at_ 0 rfl).cell 0
    have c1 : _ = some (Value.int .i64 (atV d n)) := (k1.at_ 1 rfl).cell 0
    have c2 : _ = some (Value.int .i64 (stV d)) := (k1.at_ 2 rfl).cell 0
    rw [HZ.out] at c1
    rw [HST.out] at c2
    have HP := Lib.hid hP
    clear k1 hP
    by_cases hlt : m < n
    · obtain ⟨h1, h2, h3⟩ := stand_in HZ1.out hlt
      have hy := HY.out (f - 1) pre (pos d n m) wr HP.out ⟨by omega, by rw [hpl]⟩
      rw [← h3] at hy
      obtain ⟨fn, tmps, assign, body, hy, hR⟩ := hy
      have H3 := Lib.hid h3
      have HPL := Lib.hid hpl
      clear h3 hpl
      gi_wp2_with fail
      refine ⟨fun h => (by cases h), hR.mono ?_⟩
      rintro e w3 (⟨rfl, hI3⟩ | ⟨rfl, hX3⟩)
      · have k3 := HS.out _ _ hI3
        have c2 : _ = some (Value.int .i64 (stV d)) := (k3.at_ 2 rfl).cell 0
        rw [HST.out] at c2
        have HI3 := Lib.hid hI3
        clear k3 hI3 hy hR HP c0 c1
        gi_wp2_with fail
        go_roundw
        case rel => exact ⟨m + 1, z + st, _, by go_num, hlt, by rw [List.length_append, HPL.out]; rfl, by have := stand_bd (stand_step HZ1.out) hlt; rw [HST.out] at this; exact this.1, by have := stand_bd (stand_step HZ1.out) hlt; rw [HST.out] at this; exact this.2, Lib.hid (by have := stand_step HZ1.out; rwa [HST.out] at this), HI3.out⟩
        case measure =>
          have := HST.out
          unfold stV at this
          simp only [intOf]
          split at this <;> rename_i hd
          · rw [if_pos hd, if_pos hd]; omega
          · rw [if_neg hd, if_neg hd]; omega
      · have HX3 := Lib.hid hX3
        clear hX3 hy hR HP c0 c1 c2
        gi_wp2_with fail
        exact ⟨rfl, _, results_none rfl _ _ _, ⟨_, rfl⟩, .inr HX3.out⟩
    · obtain rfl : m = n := by omega
      have hfin := HJ.out _ _ hpl HP.out
      have HF := Lib.hid hfin
      clear hfin hpl
      rcases stand_end HZ1.out with h1 | ⟨h1, h2⟩
      · gi_wp2_with fail
        go_end0
        exact ⟨⟨_, rfl⟩, .inl HF.out⟩
      · gi_wp2_with fail
        go_end0
        exact ⟨⟨_, rfl⟩, .inl HF.out⟩
end Go.Proofs.Ytddihpiheopleaa.Tm
