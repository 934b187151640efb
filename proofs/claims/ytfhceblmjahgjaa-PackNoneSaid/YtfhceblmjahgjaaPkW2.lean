/- Contract of package pack: (*Writer).Num. -/
import Derived.Test.YtfhceblmjahgjaaPkApp
namespace Go.Proofs.Ytfhceblmjahgjaa
open Go.ChangeShapes Go.WideShapes Go.ChangeAt Go.RowKit

/-- what a writing call ends in -/
def WPost (w : World) (p : Nat) (v : Value) (xs : List Nat) (e : Ending) (w' : World) : Prop := e = .returned (.tuple #[]) ∧ ∃ v', Wrote w p v xs w' v'

set_option maxRecDepth 100000 in
set_option maxHeartbeats 2000000 in
theorem wnum_low (p : Nat) (v : Value) (xs : List Nat) (n : Nat) (w : World) (h : Wr w p v xs) (hn : n < 248) (hl : xs.length + 9 ≤ 140737488355328) :
    Calls Try.prog 34 #[.pointer (some ⟨p, 0, none⟩), .int .u64 n] w (WPost w p v (xs ++ Pk.num n)) := by
  have e : Pk.num n = [n] := by unfold Pk.num; rw [if_pos hn]
  rw [e]
  have C1 := Lib.hid (wis_yes p v xs w h)
  have C2 := Lib.hid (follow_any n w (by omega))
  have e2 : Pk.fol n = 0 := by unfold Pk.fol; rw [if_pos hn]
  rw [e2] at C2
  have hc : w.cell? ⟨p, 1, none⟩ = some v := h.blk.cell 1
  have H := Lib.hid h
  have hp : p < w.heap.size := h.blk.lt
  clear e e2 h
  go_enter Try.func34, Try.ntmps34
  go_wp2_with fail
  refine C1.out.mono ?_
  rintro e w' ⟨rfl, rfl⟩
  go_wp2_with fail
  refine C2.out.mono ?_
  rintro e w' ⟨rfl, rfl⟩
  go_wp2_with (at_builtin; refine wpList_app1 _ rfl _ _ rfl p v xs (H.out.alloc _) rfl ⟨w.heap.size, 0, none⟩ 1 n rfl ?c1 ?c2 ?_)
  case c1 => simp
  case c2 => omega
  intro v' w2 hA
  have h1 := hA.cell
  have h2 := hA.frozen
  obtain ⟨A, m, c, rfl⟩ := hA.form
  have HA := Lib.hid hA
  clear hA
  go_wp2_with fail
  (try simp only [Exit.inBlock, Exit.then])
  refine bodyPost_ret (results_none rfl _ _ _) rfl ?_
  exact ⟨rfl, _, ((Wrote.refl H.out).alloc _).trans HA.out.done⟩

theorem be_step (n a : Nat) (h : n / 256 ^ a ≠ 0) : Pk.be (n / 256 ^ a) = Pk.be (n / 256 ^ (a + 1)) ++ [n / 256 ^ a % 256] := by
  rw [Pk.be_pos _ h, Nat.pow_succ, Nat.div_div_eq_div_mul]

theorem be_top (n a : Nat) (h : a < (Pk.be n).length) : n / 256 ^ a ≠ 0 := by
  intro e
  have h1 : n < 256 ^ a := by
    rcases Nat.lt_or_ge n (256 ^ a) with h2 | h2
    · exact h2
    · have := Nat.div_pos h2 (Nat.pow_pos (by omega))
      omega
  have := Pk.be_len a n h1
  omega

set_option maxRecDepth 100000 in
set_option maxHeartbeats 2000000 in
theorem wnum_high (p : Nat) (v : Value) (xs : List Nat) (n : Nat) (w : World) (h : Wr w p v xs) (hn : 248 ≤ n) (hn2 : n < 18446744073709551616) (hl : xs.length + 9 ≤ 140737488355328) :
    Calls Try.prog 34 #[.pointer (some ⟨p, 0, none⟩), .int .u64 n] w (WPost w p v (xs ++ Pk.num n)) := by
  have e : Pk.num n = (247 + (Pk.be n).length) :: Pk.be n := by unfold Pk.num; rw [if_neg (by omega)]
  have C1 := Lib.hid (wis_yes p v xs w h)
  have C2 := Lib.hid (follow_any n w hn2)
  have e2 : Pk.fol n = (Pk.be n).length := by unfold Pk.fol; rw [if_neg (by omega)]
  rw [e2] at C2
  have hL8 : (Pk.be n).length ≤ 8 := Pk.be_len 8 n (by simpa using hn2)
  have hL1 := Pk.be_len_pos n (by omega)
  obtain ⟨L, hL⟩ : ∃ L, (Pk.be n).length = L := ⟨_, rfl⟩
  rw [hL] at C2 hL8 hL1 e
  have hc : w.cell? ⟨p, 1, none⟩ = some v := h.blk.cell 1
  have H := Lib.hid h
  have E := Lib.hid e
  have HL := Lib.hid hL
  have hp : p < w.heap.size := h.blk.lt
  have hLz : ((L : Int) == 0) = false := by simp; omega
  clear e e2 h hL
  go_enter Try.func34, Try.ntmps34
  go_wp2_with fail
  refine C1.out.mono ?_
  rintro e w' ⟨rfl, rfl⟩
  go_wp2_with fail
  refine C2.out.mono ?_
  rintro e w' ⟨rfl, rfl⟩
  go_wp2_with (at_builtin; refine wpList_app1 _ rfl _ _ rfl p v xs (H.out.alloc _) rfl ⟨w.heap.size, 0, none⟩ 1 (247 + L) rfl ?c1 ?c2 ?_)
  case c1 => simp
  case c2 => omega
  intro v' w2 hA
  have h1 := hA.cell
  have h2 := hA.frozen
  obtain ⟨A, m, c, rfl⟩ := hA.form
  have HA := Lib.hid hA
  clear hA
  go_wp2_with fail
  go_loopg [5] L (fun g s5 wx => ∃ (z : Int) (v' : Value), s5 = .int .i64 z ∧ z = (g : Int) - 1 ∧ g ≤ L ∧ Wrote w p v (xs ++ (247 + L) :: Pk.be (n / 256 ^ g)) wx v')
  case atStart =>
    refine ⟨_, .slice A m c, rfl, rfl, Nat.le_refl _, ?_⟩
    have : n / 256 ^ L = 0 := by
      have := Pk.val_lt (Pk.be n) (Pk.be_lt n)
      rw [Pk.val_be, HL.out] at this
      exact Nat.div_eq_of_lt this
    rw [this, Pk.be_zero]
    exact ((Wrote.refl H.out).alloc _).trans HA.out.done
  case round =>
    obtain ⟨z, v', rfl, hz, hcL, hW⟩ := hrel
    have HW := Lib.hid hW
    clear hW h1 h2
    by_cases hc0 : gk = 0
    · subst hc0
      obtain rfl : z = -1 := by omega
      clear hz
      go_wp2_with fail
      go_end0
      refine ⟨rfl, v', ?_⟩
      rw [E.out]
      have := HW.out
      rwa [Nat.pow_zero, Nat.div_one] at this
    · obtain ⟨a, rfl⟩ : ∃ a, gk = a + 1 := ⟨gk - 1, by omega⟩
      obtain rfl : z = (a : Int) := by omega
      clear hz
      have hc1 : wr.cell? ⟨p, 1, none⟩ = some v' := HW.out.wr.blk.cell 1
      obtain ⟨y, hy⟩ : ∃ y : Int, y = 8 * (a : Int) := ⟨_, rfl⟩
      have e1 : IntKind.i64.wrap (8 * (a : Int)) = y := by rw [hy]; exact IntWalk.i64_in _ (by omega)
      obtain ⟨q, hq⟩ : ∃ q : Nat, n / 256 ^ a = q := ⟨_, rfl⟩
      have e2 : ∀ W, (Op.shift .shr .u64 (n : Int) .i64 y).run Try.prog W = .ok (.int .u64 (q : Int)) W := by
        intro W
        rw [shift_shr_u64 (x := (n : Int)) (yk := .i64) (y := y) (by omega) (by omega), ← hq, hy]
        have : ((n : Int) / 2 ^ (8 * (a : Int)).toNat) = ((n / 256 ^ a : Nat) : Int) := by
          rw [show (8 * (a : Int)).toNat = 8 * a by omega, Int.natCast_ediv, show (256 : Nat) = 2 ^ 8 by decide, ← Nat.pow_mul, Int.natCast_pow]
          rfl
        rw [this]
        rfl
      obtain ⟨b, hb⟩ : ∃ b : Nat, q % 256 = b := ⟨_, rfl⟩
      have e3 : IntKind.u8.wrap (q : Int) = (b : Int) := by
        show (q : Int) % 256 = _
        omega
      have HQ := Lib.hid hq
      have HB := Lib.hid hb
      clear hq hb hy
      have hpr : p < wr.heap.size := HW.out.wr.blk.lt
      have HX : Hid (Wr (wr.alloc (.cells #[.int .u8 (b : Int)] 5)).drew p v' (xs ++ (247 + L) :: Pk.be (n / 256 ^ (a + 1)))) := (HW.out.wr.alloc _).drewN 1
      have HC : Hid ((wr.alloc (.cells #[.int .u8 (b : Int)] 5)).drew.cell? ⟨wr.heap.size, 0, none⟩ = some (.int .u8 (b : Int))) := by show _ = _; simp
      have HLn : Hid ((xs ++ (247 + L) :: Pk.be (n / 256 ^ (a + 1))).length + 1 ≤ 140737488355328) := by
        show _ ≤ _
        have hle : (Pk.be (n / 256 ^ (a + 1))).length ≤ 7 := Pk.be_len 7 _ (by
          refine Nat.div_lt_of_lt_mul ?_
          refine Nat.lt_of_lt_of_le hn2 ?_
          rw [← Nat.pow_add]
          exact Nat.le_trans (by decide : 18446744073709551616 ≤ 256 ^ 8) (Nat.pow_le_pow_right (by omega) (by omega)))
        simp
        omega
      go_wp2_with fail
      go_region_law (refine step_app1 _ rfl (.tmp 46) (.tmp 52) rfl p v' (xs ++ (247 + L) :: Pk.be (n / 256 ^ (a + 1))) HX.out rfl ⟨wr.heap.size, 0, none⟩ 1 b rfl HC.out HLn.out ?_; intro v2 w3 hA; have h1 := hA.cell; have h2 := hA.frozen; obtain ⟨A2, m2, c2, rfl⟩ := hA.form; have HA2 := Lib.hid hA; clear hA)
      all_goals
        go_wp2_with fail
        go_roundg a
        case measure => omega
        case rel =>
          refine ⟨_, .slice A2 m2 c2, rfl, rfl, by omega, ?_⟩
          have hs := be_step n a (be_top n a (by rw [HL.out]; omega))
          rw [hs, HQ.out, HB.out]
          have := ((HW.out.alloc _).drewN 1).trans HA2.out.done
          rwa [List.append_assoc] at this

theorem wnum_any (p : Nat) (v : Value) (xs : List Nat) (n : Nat) (w : World) (h : Wr w p v xs) (hn : n < 18446744073709551616) (hl : xs.length + 9 ≤ 140737488355328) :
    Calls Try.prog 34 #[.pointer (some ⟨p, 0, none⟩), .int .u64 n] w (WPost w p v (xs ++ Pk.num n)) := by
  by_cases h8 : n < 248
  · exact wnum_low p v xs n w h h8 hl
  · exact wnum_high p v xs n w h (by omega) hn hl
end Go.Proofs.Ytfhceblmjahgjaa
