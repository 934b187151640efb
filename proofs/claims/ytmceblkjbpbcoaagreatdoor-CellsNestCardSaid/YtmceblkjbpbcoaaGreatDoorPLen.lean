/- Contracts of layers below. -/
import Derived.Test.YtmceblkjbpbcoaaGreatDoorRows
import Derived.Lib.Strings
import Derived.Lib.Slices
import Derived.Lib.Small
import Derived.Lib.Walk
import Derived.Lib.BitFns
namespace Go.Proofs.YtmceblkjbpbcoaaGreatDoor
set_option maxRecDepth 100000
set_option maxHeartbeats 1000000
namespace Fo
theorem qri (y : Int) (hy0 : 0 <= y) (hy : y <= 255) (L : Int) (hL : L = Lib.len8 y) : 0 <= L /\ L <= 8 /\ L = (Lib.bitLen y.toNat : Nat) := by
 have h := Lib.bitLen_le8' y hy0 hy
 rw [hL, Lib.len8_of y hy0 hy]
 omega
theorem qdr (k x : Nat) (hk : k <= 56) (h : 2 ^ k <= x) (h2 : x < 18446744073709551616) (y : Int) (hy0 : 0 <= y) (hy : y <= 255) (e : y.toNat = x / 2 ^ k) (c : Int) (hc : c = k) :
 (c + ((Lib.len8 y + 9223372036854775808) % 18446744073709551616 - 9223372036854775808) + 9223372036854775808) % 18446744073709551616 - 9223372036854775808 = (Lib.bitLen x : Nat) := by
 have s := Lib.bitLen_shift k x h h2
 obtain ⟨a, b, d⟩ := qri y hy0 hy _ rfl
 rw [e] at d
 rw [s, hc]
 generalize Lib.len8 y = L at *
 omega
theorem qzu (x : Nat) (y : Int) (hy0 : 0 <= y) (hy : y <= 255) (e : y.toNat = x) :
 (Lib.len8 y + 9223372036854775808) % 18446744073709551616 - 9223372036854775808 = (Lib.bitLen x : Nat) := by
 obtain ⟨a, b, d⟩ := qri y hy0 hy _ rfl
 rw [e] at d
 generalize Lib.len8 y = L at *
 omega
theorem qrk (x : Int) (w : World) (h0 : 0 <= x) (h1 : x <= 18446744073709551615) :
 Calls Tryz.prog 182 #[.int .u64 x] w fun e w' => e = .returned (.int .i64 (Lib.bitLen x.toNat)) /\ w = w' := by
 go_enter Tryz.func182, Tryz.ntmps182
 go_wp2
 all_goals (go_ret; refine ⟨congrArg Ending.returned (congrArg (Value.int IntKind.i64) ?_), rfl⟩)
 all_goals first
  | (with_reducible refine qdr 56 x.toNat ?_ ?_ ?_ _ ?_ ?_ ?_ 56 ?_)
  | (with_reducible refine qdr 48 x.toNat ?_ ?_ ?_ _ ?_ ?_ ?_ 48 ?_)
  | (with_reducible refine qdr 40 x.toNat ?_ ?_ ?_ _ ?_ ?_ ?_ 40 ?_)
  | (with_reducible refine qdr 32 x.toNat ?_ ?_ ?_ _ ?_ ?_ ?_ 32 ?_)
  | (with_reducible refine qdr 24 x.toNat ?_ ?_ ?_ _ ?_ ?_ ?_ 24 ?_)
  | (with_reducible refine qdr 16 x.toNat ?_ ?_ ?_ _ ?_ ?_ ?_ 16 ?_)
  | (with_reducible refine qdr 8 x.toNat ?_ ?_ ?_ _ ?_ ?_ ?_ 8 ?_)
  | (with_reducible refine qzu x.toNat _ ?_ ?_ ?_)
 all_goals omega
theorem qrj (x : Nat) (h0 : 0 < x) (h : x < 18446744073709551616) : 1 <= Lib.bitLen x /\ Lib.bitLen x <= 64 /\ 2 ^ (Lib.bitLen x - 1) <= x /\ x < 2 ^ Lib.bitLen x := by
 suffices H : ∀ n x : Nat, x <= n -> 0 < x -> x < 18446744073709551616 -> 1 <= Lib.bitLen x /\ 2 ^ (Lib.bitLen x - 1) <= x /\ x < 2 ^ Lib.bitLen x by
  obtain ⟨a, b, c⟩ := H x x (Nat.le_refl _) h0 h
  exact ⟨a, Lib.bitLen_le x 64 (Nat.le_refl _) h, b, c⟩
 intro n
 induction n with
 | zero => intro x h1 h2; omega
 | succ n ih =>
   intro x h1 h2 h3
   have e := Lib.bitLen_half x (by omega) h3
   by_cases hx : x = 1
   ·subst hx
    have : Lib.bitLen 1 = 1 := by decide +kernel
    rw [this]
    omega
   ·obtain ⟨a, b, c⟩ := ih (x / 2) (by omega) (by omega) (by omega)
    rw [e]
    generalize Lib.bitLen (x / 2) = m at *
    obtain ⟨m, rfl⟩ : ∃ q, m = q + 1 := ⟨m - 1, by omega⟩
    have e1 : 1 + (m + 1) - 1 = m + 1 := by omega
    have e2 : m + 1 - 1 = m := by omega
    rw [e1]
    rw [e2] at b
    have e3 : 1 + (m + 1) = (m + 1) + 1 := by omega
    rw [e3]
    have p1 : 2 ^ (m + 1) = 2 ^ m * 2 := Nat.pow_succ _ _
    have p2 : 2 ^ (m + 1 + 1) = 2 ^ (m + 1) * 2 := Nat.pow_succ _ _
    omega
end Fo
end Go.Proofs.YtmceblkjbpbcoaaGreatDoor
