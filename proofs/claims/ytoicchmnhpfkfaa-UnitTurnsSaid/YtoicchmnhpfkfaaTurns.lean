/- UnitTurns: for every input the law returns true, and its arguments read behind the call as they did before. No condition. -/
import Derived.Test.YtoicchmnhpfkfaaCommon
import Derived.Test.YtoicchmnhpfkfaaRows
import Derived.WalkKit
import Derived.ProofKit
import Derived.OpenShut
import Derived.ShutString
import Derived.ChangeOld
import Derived.Below
import Derived.OwnWalk
import Derived.Maps.AppendAt
namespace Go.Proofs.Ytoicchmnhpfkfaa.unitTurns
open Go.ChangeShapes Go.WideShapes Go.ChangeAt Go.RowKit
open Go.ChangeMaps (open_string shut_string)
set_option linter.unusedVariables false

theorem own : ownKnob Try.prog.godebug = none := by kernel_rfl
theorem laidOut : laidOutB Try.prog = true := by kernel_rfl

/-- WHAT THE WALK IS TOLD OF A SLICE OF INTEGERS THAT CAME IN: it is nil; or it leads to a row of 'cap' cells, the numbers 'zs' (the first 'len' are its elements, the rest its spare room), each fitting its kind. -/
def IsRow (k : IntKind) (w : World) (a : Option Addr) (len cap : Nat) (zs : List Int) : Prop :=
  (a = none ∧ len = 0 ∧ cap = 0 ∧ zs = []) ∨
  ∃ x, a = some x ∧ len ≤ cap ∧ cap ≤ maxLen ∧ zs.length = cap ∧ (∀ i, i < zs.length → w.cell? (x.add i) = some (.int k (zs.getD i 0))) ∧ ∀ n ∈ zs, (Lit.int k n).wf = true

theorem own_kept {w w' : World} {base : Nat} {e : TypeId} {size : Nat} {v : Value} {n : Nat} {xs : List Value} (h : w.ownsRow base e size v n xs) (hb : Below w.heap.size w w') : w'.ownsRow base e size v n xs := by
  refine ⟨h.1, ?_⟩
  rcases h.2 with hn | ⟨g, cap, cur, rfl, h1, hg, rest⟩
  · exact .inl hn
  · refine .inr ⟨g, cap, cur, rfl, h1, ?_, rest⟩
    rw [hb.block g (by have := (Array.getElem?_eq_some_iff.1 hg).1; exact this)]
    exact hg

theorem Try.infoI : (Try.prog.info? 2).map (fun i => (i.zero, i.size, i.bytes)) = some (some (.int .i64 0), 1, 8) := by kernel_rfl

/-- unit.Sum at a row of the call's own -/
theorem sum_own (base : Nat) (v : Value) (zs : List Int) (w : World) (hn : zs.length ≤ 1000) (h : w.ownsRow base 2 1 v zs.length (zs.map (Value.int .i64))) (hr : ∀ z ∈ zs, -9223372036854775808 ≤ z ∧ z ≤ 9223372036854775807) :
    Calls Try.prog 10 #[v] w fun e w' => e = .returned (.tuple #[.int .i64 (fitV zs.sum), .int .i64 (fitE zs.sum)]) ∧ w = w' := by
  rcases h.2 with ⟨rfl, h0⟩ | ⟨g, cap, cur, rfl, h1, hg, rest⟩
  · have : zs = [] := List.length_eq_zero_iff.1 h0
    subst this
    exact sum_nil w
  · refine sum_any ⟨g, 0, none⟩ zs cap w (by omega) (fun j hj => ?_) hr
    refine h.cells (g := g) rfl j _ ?_
    simp [List.getD, hj]

/-- a number and the number turned, rounded -/
theorem turned (p o : Int) (ho : 1 ≤ o) : ((2 * p + o) / (2 * o) + (2 * -p + o) / (2 * o) = if 2 * (p % o) = o then 1 else 0) := by
  have h1 := Int.emod_nonneg p (show o ≠ 0 by omega)
  have h2 := Int.emod_lt_of_pos p (show 0 < o by omega)
  have hd := Int.emod_add_mul_ediv p o
  generalize p % o = R at *
  generalize p / o = Q at *
  have e : Q * (2 * o) = 2 * (o * Q) := by rw [Int.mul_left_comm, Int.mul_comm Q]
  by_cases c1 : 2 * R < o
  · rw [if_neg (by omega), ediv_is (2 * p + o) (2 * o) Q (by omega) (by omega) (by omega), ediv_is (2 * -p + o) (2 * o) (-Q) (by omega) (by rw [Int.neg_mul]; omega) (by rw [Int.neg_mul]; omega)]
    omega
  · by_cases c2 : 2 * R = o
    · rw [if_pos c2, ediv_is (2 * p + o) (2 * o) (Q + 1) (by omega) (by rw [Int.add_mul]; omega) (by rw [Int.add_mul]; omega), ediv_is (2 * -p + o) (2 * o) (-Q) (by omega) (by rw [Int.neg_mul]; omega) (by rw [Int.neg_mul]; omega)]
      omega
    · rw [if_neg c2, ediv_is (2 * p + o) (2 * o) (Q + 1) (by omega) (by rw [Int.add_mul]; omega) (by rw [Int.add_mul]; omega), ediv_is (2 * -p + o) (2 * o) (-Q - 1) (by omega) (by rw [Int.sub_mul, Int.neg_mul]; omega) (by rw [Int.sub_mul, Int.neg_mul]; omega)]
      omega

/-- what the law's test of a half sees, in the walk's own words -/
def HalfAt (T o a b : Int) : Prop := ((((2 * T == o) = true) ∨ ((2 * T == o) = false ∧ (2 * T == -o) = true)) ∧ (a + b == 1) = true ∧ (a + b != 1) = false) ∨ ((2 * T == o) = false ∧ (2 * T == -o) = false ∧ (a + b == 0) = true ∧ (a + b != 0) = false)

theorem half_at (x b o : Int) (ho : 1 ≤ o) : HalfAt ((x * b).tmod o) o (rnd x b o) (rnd (-x) b o) := by
  have ht := turned (x * b) o ho
  obtain ⟨k1, k2, k3, k4⟩ := tmod_is (x * b) o ho
  have hs : rnd x b o + rnd (-x) b o = if 2 * (x * b % o) = o then 1 else 0 := by
    unfold rnd
    rw [Int.neg_mul]
    exact ht
  unfold HalfAt
  generalize (x * b).tmod o = T at *
  generalize x * b % o = R at *
  generalize rnd x b o + rnd (-x) b o = S at *
  by_cases c : 2 * R = o
  · rw [if_pos c] at hs
    left
    refine ⟨?_, by simp [hs], by simp [hs]⟩
    by_cases hT : T < 0
    · right; refine ⟨by simp; omega, by simp; omega⟩
    · left; simp; omega
  · rw [if_neg c] at hs
    right
    refine ⟨by simp; omega, by simp; omega, by simp [hs], by simp [hs]⟩

def May (z : Int) : Prop := -1073741824 ≤ z ∧ z ≤ 1073741824

theorem turn_sum (zs : List Int) : (zs.map fun z => -z).sum = -zs.sum := by
  induction zs with
  | nil => simp
  | cons z zs ih => simp only [List.map_cons, List.sum_cons, ih]; omega

theorem may_sum (zs : List Int) (h : ∀ z ∈ zs, May z) : -1073741824 * (zs.length : Int) ≤ zs.sum ∧ zs.sum ≤ 1073741824 * (zs.length : Int) := by
  induction zs with
  | nil => simp
  | cons z zs ih =>
    have h1 := h z (by simp)
    have h2 := ih (fun y hy => h y (by simp [hy]))
    unfold May at h1
    simp only [List.sum_cons, List.length_cons]
    omega

set_option maxRecDepth 100000 in
set_option maxHeartbeats 1000000 in
theorem out_a (A : Option Addr) (n c : Nat) (b o : Int) (w : World) (h : 1000 < n) (hbig : n ≤ 9223372036854775807) :
    Calls Try.prog 7 #[.slice A n c, .int .i64 b, .int .i64 o] w fun e w' => e = .returned (.bool true) ∧ Below w.heap.size w w' := by
  go_enter Try.func7, Try.ntmps7
  go_wp2_with fail
  refine (head_any _).mono ?_
  rintro e w1 ⟨rfl, g⟩
  go_wp2_with fail
  go_ret
  exact ⟨rfl, g.1⟩

set_option maxRecDepth 100000 in
set_option maxHeartbeats 1000000 in
theorem out_b (A : Option Addr) (n c : Nat) (b o : Int) (w : World) (hn : ¬ 1000 < n) (hw : -9223372036854775808 ≤ b ∧ b ≤ 9223372036854775807) (h : b < -1073741824 ∨ 1073741824 < b) (hbig : n ≤ 9223372036854775807) :
    Calls Try.prog 7 #[.slice A n c, .int .i64 b, .int .i64 o] w fun e w' => e = .returned (.bool true) ∧ Below w.heap.size w w' := by
  go_enter Try.func7, Try.ntmps7
  go_wp2_with fail
  refine (may_no b _ hw h).mono ?_
  rintro e w1 ⟨rfl, rfl⟩
  go_wp2_with fail
  refine (head_any _).mono ?_
  rintro e w1 ⟨rfl, g⟩
  go_wp2_with fail
  go_ret
  exact ⟨rfl, g.1⟩

set_option maxRecDepth 100000 in
set_option maxHeartbeats 1000000 in
theorem out_c (A : Option Addr) (n c : Nat) (b o : Int) (w : World) (hn : ¬ 1000 < n) (hb : -1073741824 ≤ b ∧ b ≤ 1073741824) (hw : -9223372036854775808 ≤ o ∧ o ≤ 9223372036854775807) (h : o < -1073741824 ∨ 1073741824 < o) (hbig : n ≤ 9223372036854775807) :
    Calls Try.prog 7 #[.slice A n c, .int .i64 b, .int .i64 o] w fun e w' => e = .returned (.bool true) ∧ Below w.heap.size w w' := by
  go_enter Try.func7, Try.ntmps7
  go_wp2_with fail
  refine (may_yes b _ (by omega) (by omega)).mono ?_
  rintro e w1 ⟨rfl, rfl⟩
  go_wp2_with fail
  refine (may_no o _ hw h).mono ?_
  rintro e w1 ⟨rfl, rfl⟩
  go_wp2_with fail
  refine (head_any _).mono ?_
  rintro e w1 ⟨rfl, g⟩
  go_wp2_with fail
  go_ret
  exact ⟨rfl, g.1⟩

set_option maxRecDepth 100000 in
set_option maxHeartbeats 1000000 in
theorem out_d (A : Option Addr) (n c : Nat) (b o : Int) (w : World) (hn : ¬ 1000 < n) (hb : -1073741824 ≤ b ∧ b ≤ 1073741824) (ho : -1073741824 ≤ o ∧ o ≤ 1073741824) (h : o < 1) (hbig : n ≤ 9223372036854775807) :
    Calls Try.prog 7 #[.slice A n c, .int .i64 b, .int .i64 o] w fun e w' => e = .returned (.bool true) ∧ Below w.heap.size w w' := by
  go_enter Try.func7, Try.ntmps7
  go_wp2_with fail
  refine (may_yes b _ (by omega) (by omega)).mono ?_
  rintro e w1 ⟨rfl, rfl⟩
  go_wp2_with fail
  refine (may_yes o _ (by omega) (by omega)).mono ?_
  rintro e w1 ⟨rfl, rfl⟩
  go_wp2_with fail
  refine (head_any _).mono ?_
  rintro e w1 ⟨rfl, g⟩
  go_wp2_with fail
  go_ret
  exact ⟨rfl, g.1⟩

set_option maxRecDepth 100000 in
set_option maxHeartbeats 2000000 in
theorem main_nil (b o : Int) (w : World) (hb : -1073741824 ≤ b ∧ b ≤ 1073741824) (ho : 1 ≤ o ∧ o ≤ 1073741824) :
    Calls Try.prog 7 #[.slice none 0 0, .int .i64 b, .int .i64 o] w fun e w' => e = .returned (.bool true) ∧ Below w.heap.size w w' := by
  go_enter Try.func7, Try.ntmps7
  go_wp2_with fail
  refine (may_yes b _ (by omega) (by omega)).mono ?_
  rintro e w1 ⟨rfl, rfl⟩
  go_wp2_with fail
  refine (may_yes o _ (by omega) (by omega)).mono ?_
  rintro e w1 ⟨rfl, rfl⟩
  go_wp2_with fail
  refine wp_loop_rounds 1 ?_
  rw [rounds_succ]
  go_wp2_with fail
  refine (sum_nil _).mono ?_
  rintro e w1 ⟨rfl, rfl⟩
  go_wp2_with fail
  refine (sum_nil _).mono ?_
  rintro e w1 ⟨rfl, rfl⟩
  go_wp2_with fail
  refine (head_any _).mono ?_
  rintro e w1 ⟨rfl, g⟩
  go_wp2_with fail
  go_ret
  exact ⟨by simp, g.1⟩

set_option maxRecDepth 100000 in
set_option maxHeartbeats 4000000 in
theorem main_some (a : Addr) (zs : List Int) (cap : Nat) (b o : Int) (w : World) (hn : ¬ 1000 < zs.length) (hb : -1073741824 ≤ b ∧ b ≤ 1073741824) (ho : 1 ≤ o ∧ o ≤ 1073741824)
    (ha : zs.length = 0 ∨ a.block < w.heap.size) (hc : ∀ j, j < zs.length → w.cell? (a.add j) = some (.int .i64 (zs.getD j 0))) (hr : ∀ z ∈ zs, -9223372036854775808 ≤ z ∧ z ≤ 9223372036854775807) :
    Calls Try.prog 7 #[.slice (some a) zs.length cap, .int .i64 b, .int .i64 o] w fun e w' => e = .returned (.bool true) ∧ Below w.heap.size w w' := by
  obtain ⟨i0, hi, hz0, hz1, hz2⟩ := info_parts Try.infoI
  have HA := Lib.hid ha
  have HC := Lib.hid hc
  have HR := Lib.hid hr
  have HI := Lib.hid (And.intro hi (And.intro hz0 (And.intro hz1 hz2)))
  have es : (o == 0) = false := by simp; omega
  clear ha hc hr hi hz0 hz1 hz2
  go_enter Try.func7, Try.ntmps7
  go_wp2_with fail
  refine (may_yes b _ (by omega) (by omega)).mono ?_
  rintro e w1 ⟨rfl, rfl⟩
  go_wp2_with fail
  refine (may_yes o _ (by omega) (by omega)).mono ?_
  rintro e w1 ⟨rfl, rfl⟩
  go_wp2_with fail
  go_loopg [7, 8] 2000 (fun g s7 s8 wx => Below w.heap.size w wx ∧ ∃ k : Nat, s8 = .int .i64 k ∧ k ≤ zs.length ∧ g = 2000 - k ∧ wx.ownsRow w.heap.size 2 1 s7 k (((zs.take k).map fun z => -z).map (Value.int .i64)) ∧ Hid (∀ z ∈ zs.take k, May z))
  case atStart => exact ⟨Below.refl _ _, 0, rfl, Nat.zero_le _, rfl, World.ownsRow_nil _ _ _ _, fun z hz => by simp at hz⟩
  case round =>
    obtain ⟨bel, k, rfl, hk, rfl, hown, HM⟩ := hrel
    obtain ⟨wo, rfl⟩ : ∃ wo : World, wo = wr := ⟨_, rfl⟩
    have hsz := bel.size
    by_cases hlt : k < zs.length
    · have hcell : wo.cell? (a.add k) = some (.int .i64 (zs.getD k 0)) := by
        rw [bel.cell (by rw [block_add]; rcases HA.out with h | h <;> omega)]
        exact HC.out k hlt
      have hz := HR.out (zs.getD k 0) (by simp [List.getD, hlt])
      have HT : Hid (zs.take (k + 1) = zs.take k ++ [zs.getD k 0]) := by
        show _ = _
        rw [List.take_succ_eq_append_getElem hlt]
        simp [List.getD, hlt]
      generalize zs.getD k 0 = x at *
      by_cases hmay : x < -1073741824 ∨ 1073741824 < x
      · have HMAY := Lib.hid hmay
        clear hmay
        go_wp2_with fail
        refine (may_no x _ hz HMAY.out).mono ?_
        rintro e w1 ⟨rfl, rfl⟩
        go_wp2_with fail
        refine (head_any _).mono ?_
        rintro e w1 ⟨rfl, g⟩
        go_wp2_with fail
        go_ret
        exact ⟨rfl, bel.trans (g.1.mono hsz)⟩
      · have hx : -1073741824 ≤ x ∧ x ≤ 1073741824 := by omega
        clear hmay
        obtain ⟨p, T, A, B, hp, hT, EA, EB, hpb, hTb, hAb, hBb, HH⟩ : ∃ p T A B : Int, wrap64 (x * b) = p ∧ p.tmod o = T ∧ Hid (rnd x b o = A) ∧ Hid (rnd (-x) b o = B) ∧ (-1152921504606846976 ≤ p ∧ p ≤ 1152921504606846976) ∧ (-o < T ∧ T < o) ∧ (-1152921504606846976 ≤ A ∧ A ≤ 1152921504606846976) ∧ (-1152921504606846976 ≤ B ∧ B ≤ 1152921504606846976) ∧ HalfAt T o A B :=
          ⟨x * b, (x * b).tmod o, rnd x b o, rnd (-x) b o, IntWalk.wrap64_in _ (by have := mul_bd x b hx hb; omega), rfl, rfl, rfl, mul_bd x b hx hb, ⟨(tmod_is (x * b) o ho.1).1, (tmod_is (x * b) o ho.1).2.1⟩, rnd_bd x b o ho.1 (mul_bd x b hx hb), rnd_bd (-x) b o ho.1 (mul_bd (-x) b (by omega) hb), half_at x b o ho.1⟩
        have HM2 : Hid (∀ z ∈ zs.take (k + 1), May z) := by
          intro z hz
          rw [HT.out, List.mem_append] at hz
          rcases hz with h | h
          · exact HM.out z h
          · rw [List.mem_singleton.1 h]; exact hx
        go_wp2_with fail
        refine (may_yes x _ hx.1 hx.2).mono ?_
        rintro e w1 ⟨rfl, rfl⟩
        go_wp2_with (at_builtin; refine wpList_append_own _ rfl _ _ 22 rfl w.heap.size 2 i0 (.int .i64 0) 1 8 Try.underlying22 HI.out.1 HI.out.2.1 HI.out.2.2.1 HI.out.2.2.2 rfl (by decide) _ _ _ rfl (hown.alloc _) ⟨wo.heap.size, 0, none⟩ 1 1 [.int .i64 (-x)] rfl rfl ?c1 ?c2 ?c3 ?c4 ?c5 ?_)
        case c1 => exact cell_one_new _ _ _
        case c2 => intro u hu; simp at hu; subst hu; rfl
        case c3 => unfold maxLen; omega
        case c4 => omega
        case c5 => simp; omega
        intro v' w1 hown' hgrow _
        have bel1 : Below w.heap.size w w1 := (bel.alloc hsz _).grown hgrow (by simp; omega) (fun g hg => (hown.lt g hg).1)
        have hc1 : w1.cell? (a.add k) = some (.int .i64 x) := by
          rw [bel1.cell (by rw [block_add]; rcases HA.out with h | h <;> omega), ← hcell, bel.cell (by rw [block_add]; rcases HA.out with h | h <;> omega)]
        clear hgrow hown hcell bel
        go_wp2_with fail
        refine (scale_ok x b o _ hx hb ho).mono ?_
        rintro e w2 ⟨rfl, g2⟩
        rw [EA.out]
        have hc2 : w2.cell? (a.add k) = some (.int .i64 x) := by rw [g2.cell (World.block_lt_of_cell? _ _ hc1)]; exact hc1
        clear hc1
        go_wp2_with fail
        refine (scale_ok (-x) b o _ (by omega) hb ho).mono ?_
        rintro e w3 ⟨rfl, g3⟩
        rw [EB.out]
        have hc3 : w3.cell? (a.add k) = some (.int .i64 x) := by rw [g3.cell (World.block_lt_of_cell? _ _ hc2)]; exact hc2
        have bel3 : Below w.heap.size w w3 := (bel1.trans (g2.1.mono bel1.size)).trans (g3.1.mono (Nat.le_trans bel1.size g2.2.2))
        have hown3 := own_kept (own_kept hown' g2.1) g3.1
        clear hc2 bel1 hown' g2 g3 EA EB hx
        unfold HalfAt at HH
        rcases HH with ⟨h1 | ⟨h1, h2⟩, h3, h4⟩ | ⟨h1, h2, h3, h4⟩
        all_goals
          go_wp2_with fail
          go_roundg (2000 - (k + 1))
          case measure => omega
          case rel => exact ⟨bel3, k + 1, by go_num, by omega, rfl, by rw [HT.out]; simpa using hown3, HM2⟩
    · obtain rfl : k = zs.length := by omega
      rw [List.take_length] at hown HM
      have hms := may_sum zs HM.out
      obtain ⟨f1, f2⟩ := fits_is zs.sum (by omega) (by omega)
      obtain ⟨f3, f4⟩ := fits_is (-zs.sum) (by omega) (by omega)
      have C1 := Lib.hid (sum_any a zs cap wo (by omega) (fun j hj => by rw [bel.cell (by rw [block_add]; rcases HA.out with h | h <;> omega)]; exact HC.out j hj) HR.out)
      rw [f1, f2] at C1
      have C2 := Lib.hid (sum_own w.heap.size _ (zs.map fun z => -z) wo (by simp; omega) (by simpa using hown) (fun z hz => by
        obtain ⟨y, hy, rfl⟩ := List.mem_map.1 hz
        have := HM.out y hy
        unfold May at this
        omega))
      rw [turn_sum, f3, f4] at C2
      generalize zs.sum = S at *
      clear f1 f2 f3 f4 hown
      go_wp2_with fail
      refine C1.out.mono ?_
      rintro e w1 ⟨rfl, rfl⟩
      go_wp2_with fail
      refine C2.out.mono ?_
      rintro e w1 ⟨rfl, rfl⟩
      go_wp2_with fail
      refine (head_any _).mono ?_
      rintro e w1 ⟨rfl, g⟩
      go_wp2_with fail
      go_ret
      exact ⟨by simp, bel.trans (g.1.mono hsz)⟩

theorem walk (a0 : Option Addr) (len0 cap0 : Nat) (z0 : List Int) (a1 : Int) (a2 : Int) (w : World) (w0 : IsRow .i64 w a0 len0 cap0 z0) (w1 : (Lit.int .i64 a1).wf = true) (w2 : (Lit.int .i64 a2).wf = true) :
    Calls Try.prog 7 #[.slice a0 len0 cap0, .int .i64 a1, .int .i64 a2] w fun e w' => e = .returned (.bool true) ∧ Below w.heap.size w w' := by
  have hb := wf64 w1
  have ho := wf64 w2
  have hbig : len0 ≤ 9223372036854775807 := by
    rcases w0 with ⟨_, rfl, _, _⟩ | ⟨x, _, h1, h2, _⟩
    · omega
    · unfold maxLen at h2; omega
  by_cases h1 : 1000 < len0
  · exact out_a a0 len0 cap0 a1 a2 w h1 hbig
  · by_cases h2 : a1 < -1073741824 ∨ 1073741824 < a1
    · exact out_b a0 len0 cap0 a1 a2 w h1 hb h2 hbig
    · by_cases h3 : a2 < -1073741824 ∨ 1073741824 < a2
      · exact out_c a0 len0 cap0 a1 a2 w h1 (by omega) ho h3 hbig
      · by_cases h4 : a2 < 1
        · exact out_d a0 len0 cap0 a1 a2 w h1 (by omega) (by omega) h4 hbig
        · rcases w0 with ⟨rfl, rfl, rfl, rfl⟩ | ⟨x, rfl, hl, hm, hz, hcell, hwz⟩
          · exact main_nil a1 a2 w (by omega) (by omega)
          · have hlen : (z0.take len0).length = len0 := by rw [List.length_take]; omega
            have hc : ∀ j, j < (z0.take len0).length → w.cell? (x.add j) = some (.int .i64 ((z0.take len0).getD j 0)) := fun j hj => by
              rw [hcell j (by omega)]
              have : j < len0 := by omega
              simp [List.getD, this]
            have hr : ∀ z ∈ z0.take len0, -9223372036854775808 ≤ z ∧ z ≤ 9223372036854775807 := fun z hz => wf64 (hwz z (List.mem_of_mem_take hz))
            have ha : (z0.take len0).length = 0 ∨ x.block < w.heap.size := by
              rcases Nat.eq_zero_or_pos (z0.take len0).length with h | h
              · exact Or.inl h
              · have h5 := hc 0 h
                right
                rw [← block_add x 0]
                exact World.block_lt_of_cell? _ _ h5
            have := main_some x (z0.take len0) cap0 a1 a2 w (by omega) (by omega) (by omega) ha hc hr
            rw [hlen] at this
            exact this

/-! ### THE ROW's STEP: WRITTEN OUT: LEAVE IT -/
set_option maxRecDepth 100000 in
theorem lifted (os : Os) (started : os.Started) (H : Type) (enc : TypeId × Value → H) :
    ReturnsInHanded {} Try.checked os 7 .any (Rows.unitTurnsSpec.pre6 enc Try.prog Try.f7 Rows.unitTurnsRow.domain false) (Rows.unitTurnsSpec.post enc Try.prog Try.f7 false true false false) := by
  refine returnsInHanded_of_change (C := Try.checked) own started (by kernel_rfl) Try.func7
    (ChangeSpec.witness6 (enc := enc) (C := Try.checked) false ⟨#[], #[.slice none 0 0, .int .i64 0, .int .i64 0], []⟩ 8 (by kernel_rfl) (by kernel_rfl) (by kernel_rfl) (by kernel_rfl)) ?_
  intro W base args ds gs before hval0 hW hcnd _
  have hval : ∀ (j : Nat) t v, Try.f7.params[j]? = some t → args[j]? = some v → Value.okWide Try.prog W .any base t v := hval0
  have hW' := hW
  obtain ⟨p, q, hA0, hV, rfl, hfz, hnd⟩ := hW
  have hA : DataW.TrodAll enc Try.prog W 0 (fun _ => true) true Try.f7.params.toList args.toList ds p := hA0
  rw [Try.params7] at hA hval
  obtain ⟨v0, vs0, d0, ds0, p0, q0, hargs, rfl, rfl, h0, r0⟩ := trodAll_cons hA
  obtain ⟨v1, vs1, d1, ds1, p1, q1, rfl, rfl, rfl, h1, r1⟩ := trodAll_cons r0
  obtain ⟨v2, vs2, d2, ds2, p2, q2, rfl, rfl, rfl, h2, r2⟩ := trodAll_cons r1
  obtain ⟨rfl, rfl, rfl⟩ := trodAll_nil r2
  obtain rfl : args = #[v0, v1, v2] := by cases args; simp_all
  obtain ⟨rfl, rfl⟩ := trodVars_none hV
  obtain ⟨a0, len0, cap0, rfl⟩ := okWide_slice Try.underlying22 (hval 0 22 v0 rfl rfl)
  have k0 := h0
  have lt0 : ∀ x ∈ p0, x.block < W.heap.size := by obtain ⟨m, hm⟩ := k0; exact DataW.trod_lt m _ _ _ hm
  obtain ⟨z0, w0⟩ : ∃ zs, IsRow .i64 W a0 len0 cap0 zs := by
    obtain ⟨fuel, hf⟩ := h0
    rcases open_ints Try.underlying22 Try.underlying2 (by kernel_rfl) hf with ⟨hcs, _⟩ | ⟨x, l, c, zs, hcs, _, hl, hm, hz, _, hcell, hwz⟩
    · simp [Value.cells] at hcs
      obtain ⟨rfl, rfl, rfl⟩ := hcs
      exact ⟨[], .inl ⟨rfl, rfl, rfl, rfl⟩⟩
    · simp [Value.cells] at hcs
      obtain ⟨rfl, rfl, rfl⟩ := hcs
      exact ⟨zs, .inr ⟨_, rfl, hl, hm, by simpa using hz, hcell, hwz⟩⟩
  obtain ⟨a1, rfl, rfl, rfl, w1⟩ := open_int Try.underlying2 (hval 1 2 v1 rfl rfl) h1
  obtain ⟨a2, rfl, rfl, rfl, w2⟩ := open_int Try.underlying2 (hval 2 2 v2 rfl rfl) h2
  clear hA0 hval0
  refine (walk a0 len0 cap0 z0 a1 a2 W w0 w1 w2).mono fun e W' ⟨he, bel⟩ => ?_
  subst he
  exact ⟨_, rfl, _, _, _, [], _, [], hW', trodAll_mk1 (shut_bool Try.underlying4 _), (trodAll_cons_mk (Below.trod laidOut (by kernel_rfl) (of_decide_eq_true (by kernel_rfl)) k0 bel lt0) (trodAll_cons_mk (shut_int Try.underlying2 w1) (trodAll_cons_mk (shut_int Try.underlying2 w2) trodAll_mk0))), rfl, bel.frame _, fun h => by cases h⟩

theorem over : Rows.unitTurnsRow.holds Try.pinned (OpenSpec.ofChange Rows.unitTurnsSpec) :=
  OpenClaim.holds_of_wide 7 Try.f7 rfl rfl rfl rfl rfl rfl rfl ⟨rfl, rfl, rfl, rfl, rfl⟩ rfl rfl rfl rfl rfl (by kernel_rfl) Try.func7 (by kernel_rfl)
    (of_decide_eq_true (by kernel_rfl)) (by unfold Func.isWrapper; first | (rw [if_pos (by decide +kernel)]; kernel_rfl) | (rw [if_neg (by decide +kernel)]; exact ⟨rfl, rfl⟩))
    (fun os started H enc _ => lifted os started H enc)

/-- ████ THE STATEMENT ████ -/
theorem proved : Rows.UnitTurnsSaid := over
#print axioms proved
end Go.Proofs.Ytoicchmnhpfkfaa.unitTurns
