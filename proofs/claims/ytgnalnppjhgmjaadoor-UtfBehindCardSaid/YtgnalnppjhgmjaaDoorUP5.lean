/- Contracts of package utf's sequence of characters (utf.characters and the function that it returns). Conditions: the text has at most 100000 bytes; the table lies in memory as the program's text lays it. -/
import Derived.Test.YtgnalnppjhgmjaaDoorUP4
import Derived.RangeFuncNested
import Derived.RangeFuncBound
import Derived.RangeFuncCalls
import Derived.RangeFuncLeaves
import Derived.RangeFuncBox
import Derived.Shelf.Abstract
import Derived.Shelf.RegionOpen
import Derived.WalkKit
import Derived.OwnWalkIn
import Derived.TacticsInMore
import Derived.LoopNIn
import Derived.LoopIn
namespace Go.Proofs.YtgnalnppjhgmjaaDoor
open Go.ChangeShapes Go.WideShapes Go.ChangeAt Go.RowKit Go.Shelf

attribute [local go_sem] Oper.semAt_some

/-- a character at its place, and whether its bytes are well-formed -/
structure Itm where
  r : Int
  at_ : Nat
  n : Nat
  good : Bool

/-- what the loop is handed -/
def Itm.vals (x : Itm) : Array Value := #[.agg #[.int .i32 x.r, .int .i64 0, .int .i64 x.at_, .int .i64 x.n, .int .u8 0], .bool x.good]

/-- the characters of a text, the first at a place -/
def its : Nat → List Nat → List Itm
  | _, [] => []
  | k, c :: r => ⟨Utf.rune (c :: r), k, Utf.size (c :: r), Utf.ok (c :: r)⟩ :: its (k + Utf.size (c :: r)) ((c :: r).drop (Utf.size (c :: r)))
termination_by _ l => l.length
decreasing_by
  have := Utf.size_bd c r
  simp only [List.length_drop, List.length_cons] at *
  omega

theorem its_says : ∀ n k (l : List Nat), l.length ≤ n → (its k l).map (fun x => (x.r, x.n)) = Utf.decs l ∧ (its k l).all Itm.good = Utf.valid l ∧ (its k l).map (fun x : Itm => (⟨x.r, 0, x.at_, x.n, 0⟩ : Ch)) = chs k (Utf.decs l) := by
  intro n
  induction n with
  | zero =>
    intro k l hl
    have : l = [] := List.length_eq_zero_iff.1 (by omega)
    subst this
    simp [its, Utf.decs, Utf.valid, chs]
  | succ n ih =>
    intro k l hl
    cases l with
    | nil => simp [its, Utf.decs, Utf.valid, chs]
    | cons c r =>
      have hb := Utf.size_bd c r
      obtain ⟨h1, h2, h3⟩ := ih (k + Utf.size (c :: r)) ((c :: r).drop (Utf.size (c :: r))) (by rw [List.length_drop]; omega)
      rw [its, Utf.decs, Utf.valid, chs, List.map_cons, List.map_cons, List.all_cons, h1, h2, h3]
      exact ⟨rfl, rfl, rfl⟩

/-- what a round of the loop keeps: the table, and the text's box -/
def Keeps (B : Nat) (W W' : World) : Prop := W'.heap[0]? = W.heap[0]? ∧ W'.heap[B]? = W.heap[B]?

theorem grown_of_below {w w' : World} (h : Below w.heap.size w w') : w.grownBy w' none := ⟨h.os, h.tape, h.output, h.size, fun k hk _ => h.block k hk⟩

/-- one character more -/
theorem its_next (l : List Nat) (k : Nat) (pre : List Itm) (c : Nat) (t : List Nat) (hl : l.drop k = c :: t) (h : its 0 l = pre ++ its k (l.drop k)) :
    its 0 l = (pre ++ [⟨Utf.rune (c :: t), k, Utf.size (c :: t), Utf.ok (c :: t)⟩]) ++ its (k + Utf.size (c :: t)) (l.drop (k + Utf.size (c :: t))) := by
  rw [h, hl, its, ← hl, List.drop_drop]
  simp

set_option maxRecDepth 100000 in
set_option maxHeartbeats 4000000 in
theorem chars_in (n : Nat) (hn : 3 ≤ n) (l B : Nat) (s : ByteArray) (hs : s.size ≤ 100000) (J Jx : List Itm → World → Prop)
    (hY : ∀ pre x W, J pre W → pre.length < (its 0 (bs s)).length → YieldAt Fence.wide (n - 1) Tryd.prog l (Itm.vals x) W fun e W' =>
      (e = .returned (.bool true) ∧ J (pre ++ [x]) W' ∧ Keeps B W W') ∨ (e = .returned (.bool false) ∧ Jx (pre ++ [x]) W'))
    (W : World) (hJ : AbidesFrom W.heap.size J) (hB : W.cell? ⟨B, 0, none⟩ = some (.string s)) (hT : Tab W) (h0 : J [] W) :
    CallsIn Fence.wide n Tryd.prog 25 #[.func (.yield l) #[] #[], .pointer (some ⟨B, 0, none⟩)] W fun e W' => (∃ v, e = .returned v) ∧
      ((∃ xs, xs = its 0 (bs s) ∧ J xs W') ∨ (∃ pre, pre <+: its 0 (bs s) ∧ Jx pre W')) := by
  have HY := Lib.hid hY
  have HJ := Lib.hid hJ
  clear hY hJ
  refine callsIn_of_wp Tryd.func25 rfl trivial ?_ rfl
  simp only [Tryd.ntmps25, List.size_toArray, List.length_cons, List.length_nil, Nat.reduceAdd, Nat.reduceSub, Array.replicate_succ, Array.replicate_zero, List.push_toArray, List.append_toArray, List.nil_append, List.cons_append]
  gi_wp2
  gi_loopw [3] (fun p wr => ∃ (k : Nat) (pre : List Itm), p = .int .i64 k ∧ k ≤ s.size ∧ Hid (its 0 (bs s) = pre ++ its k ((bs s).drop k)) ∧ J pre wr ∧ Tab wr ∧ wr.cell? ⟨B, 0, none⟩ = some (.string s))
    (fun p _ => s.size - (intOf p).toNat)
  case atStart => exact ⟨0, [], rfl, by omega, rfl, h0, hT, hB⟩
  case round =>
    obtain ⟨k, pre, rfl, hk, HI, hJs, hTr, hBr⟩ := hrel
    by_cases hlt : k < s.size
    · have hltz : (k : Int) < (s.size : Int) := by omega
      obtain ⟨c, hc, hd⟩ := bs_cons s k hlt
      have hx : bs (s.extract k s.size) = (bs s).drop k := by
        rw [bs_extract, List.take_of_length_le (by rw [List.length_drop, bs_len]; omega)]
      have hsz : (s.extract k s.size).size = s.size - k := by simp
      obtain ⟨r, hr⟩ : ∃ r, Utf.rune (c.toNat :: (bs s).drop (k + 1)) = r := ⟨_, rfl⟩
      obtain ⟨q, hq⟩ : ∃ q, Utf.size (c.toNat :: (bs s).drop (k + 1)) = q := ⟨_, rfl⟩
      obtain ⟨g, hg⟩ : ∃ g, Utf.ok (c.toNat :: (bs s).drop (k + 1)) = g := ⟨_, rfl⟩
      have hb := Utf.size_bd c.toNat ((bs s).drop (k + 1))
      have hq3 : 1 ≤ q ∧ k + q ≤ s.size := by
        rw [hq, List.length_cons, List.length_drop, bs_len] at hb
        omega
      have RD : Hid (∀ w, Tab w → Calls Tryd.prog 26 #[.string (s.extract k s.size)] w fun e w' => e = .returned (.tuple #[.int .i32 r, .int .i64 q, .bool g]) ∧ Below w.heap.size w w') := fun w hT => by
        have h := read_any (s.extract k s.size) w (by omega) (by omega) hT
        rw [hx, hd, hr, hq, hg] at h
        exact h
      have NX := Lib.hid (its_next (bs s) k pre _ _ hd HI.out)
      rw [hr, hq, hg] at NX
      clear hx hsz hr hq hg hb hd hc HI
      gi_wp2_with fail
      refine ⟨trivial, fun _ => by omega, (callsIn_wide.2 (RD.out _ hTr)).mono ?_⟩
      rintro e w3 ⟨rfl, b3⟩
      have hJ3 : J pre w3 := HJ.out pre wr w3 none hJs (grown_of_below b3) (fun r e => by cases e)
      have hT3 := hTr.below b3
      have hB3 : w3.cell? ⟨B, 0, none⟩ = some (.string s) := (b3.cell (World.block_lt_of_cell? _ _ hBr)).trans hBr
      obtain ⟨fn, tmps, assign, body, hy, hR⟩ := HY.out pre ⟨r, k, q, g⟩ w3 hJ3 (by rw [NX.out]; simp)
      dsimp only [Itm.vals] at hy
      clear HY HJ hJ3 hJs hTr hBr
      have HK := Lib.hid hT3
      clear hT3
      gi_wp2
      refine ⟨fun _ => by omega, hR.mono ?_⟩
      rintro e w4 (⟨rfl, hJ4, hk4⟩ | ⟨rfl, hx4⟩)
      · have hT4 : Tab w4 := by
          obtain ⟨t, fz, h⟩ := HK.out
          exact ⟨t, fz, hk4.1.trans h⟩
        have hB4 : w4.cell? ⟨B, 0, none⟩ = some (.string s) := (World.cell?_of_block (a := ⟨B, 0, none⟩) hk4.2).trans hB3
        gi_wp2
        go_roundw
        case rel => exact ⟨k + q, pre ++ [⟨r, k, q, g⟩], by go_num, by omega, NX, hJ4, hT4, hB4⟩
        case measure => simp [intOf]; omega
      · gi_wp2
        refine bodyPost_ret (results_none rfl _ _ _) rfl ?_
        exact ⟨⟨_, rfl⟩, .inr ⟨pre ++ [⟨r, k, q, g⟩], ⟨_, NX.out.symm⟩, hx4⟩⟩
    · have hke : k = s.size := by omega
      have hltz : ¬ (k : Int) < (s.size : Int) := by omega
      have FIN : Hid (its 0 (bs s) = pre) := by
        show _ = _
        rw [HI.out, bs_end s k (by omega), its, List.append_nil]
      gi_wp2
      go_end0
      exact ⟨⟨_, rfl⟩, .inl (by rw [FIN.out]; exact hJs)⟩
end Go.Proofs.YtgnalnppjhgmjaaDoor
