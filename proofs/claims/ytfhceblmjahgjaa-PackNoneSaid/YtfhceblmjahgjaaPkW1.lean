/- Contracts of package pack: follow, (*Writer).is, NewWriter. Conditions: the number is a uint64; the pointer is nil, or a writer's, or that of a zero one. -/
import Derived.Test.YtfhceblmjahgjaaPkBase
import Derived.Test.YtfhceblmjahgjaaPkNumM
import Derived.Test.YtfhceblmjahgjaaLen
namespace Go.Proofs.Ytfhceblmjahgjaa
open Go.ChangeShapes Go.WideShapes Go.ChangeAt Go.RowKit

theorem be_bits (n : Nat) (h0 : 0 < n) (h : n < 18446744073709551616) : (Pk.be n).length = (Lib.bitLen n + 7) / 8 := by
  obtain ⟨a, b, c, d⟩ := len_is n h0 h
  generalize Lib.bitLen n = L at *
  have e256 : ∀ k, (256 : Nat) ^ k = 2 ^ (8 * k) := fun k => by rw [show (256 : Nat) = 2 ^ 8 by decide, ← Nat.pow_mul]
  have h1 : (Pk.be n).length ≤ (L + 7) / 8 := Pk.be_len _ _ (by
    rw [e256]
    exact Nat.lt_of_lt_of_le d (Nat.pow_le_pow_right (by omega) (by omega)))
  have h2 := Pk.val_lt (Pk.be n) (Pk.be_lt n)
  rw [Pk.val_be, e256] at h2
  have h3 : L - 1 < 8 * (Pk.be n).length := (Nat.pow_lt_pow_iff_right (by omega)).1 (Nat.lt_of_le_of_lt c h2)
  omega

theorem fol_le (n : Nat) (h : n < 18446744073709551616) : Pk.fol n ≤ 8 := by
  unfold Pk.fol
  split
  · omega
  · exact Pk.be_len 8 n (by simpa using h)

set_option maxRecDepth 100000 in
set_option maxHeartbeats 1000000 in
theorem follow_any (n : Nat) (w : World) (h : n < 18446744073709551616) :
    Calls Try.prog 66 #[.int .u64 n] w fun e w' => e = .returned (.int .i64 (Pk.fol n : Nat)) ∧ w = w' := by
  by_cases hn : n < 248
  · have e : Pk.fol n = 0 := by unfold Pk.fol; rw [if_pos hn]
    rw [e]
    have hz : (n : Int) < 248 := by omega
    go_enter Try.func66, Try.ntmps66
    go_wp2
    go_ret
    exact ⟨rfl, rfl⟩
  · have e : Pk.fol n = (Lib.bitLen n + 7) / 8 := by unfold Pk.fol; rw [if_neg hn]; exact be_bits n (by omega) h
    rw [e]
    have hz : ¬ (n : Int) < 248 := by omega
    have hb := Lib.bitLen_le n 64 (Nat.le_refl _) h
    have C := Lib.hid (len64_any n w (by omega) (by omega))
    rw [Int.toNat_natCast] at C
    clear e
    generalize Lib.bitLen n = L at *
    go_enter Try.func66, Try.ntmps66
    go_wp2_with fail
    refine C.out.mono ?_
    rintro e w' ⟨rfl, rfl⟩
    go_wp2_with fail
    go_ret
    exact ⟨ret1 (by omega), rfl⟩

set_option maxRecDepth 100000 in
theorem newWriter_any (w : World) :
    Calls Try.prog 12 #[] w fun e w' => e = .returned (.pointer (some ⟨w.heap.size, 0, none⟩)) ∧ w' = w.alloc (.cells #[.bool true, .slice none 0 0] 53) := by
  go_enter Try.func12, Try.ntmps12
  go_wp2
  go_ret
  exact ⟨rfl, rfl⟩

theorem Wr.new (w : World) : Wr (w.alloc (.cells #[.bool true, .slice none 0 0] 53)) w.heap.size (.slice none 0 0) [] := ⟨Blk.new _ _ _, World.ownsRow_nil _ _ _ _⟩

/-- a writer that is none: nil, or a zero one -/
def NoWr (w : World) (v : Value) : Prop := v = .pointer none ∨ ∃ p, v = .pointer (some ⟨p, 0, none⟩) ∧ w.cell? ⟨p, 0, none⟩ = some (.bool false)

set_option maxRecDepth 100000 in
theorem wis_yes (p : Nat) (v : Value) (xs : List Nat) (w : World) (h : Wr w p v xs) :
    Calls Try.prog 45 #[.pointer (some ⟨p, 0, none⟩)] w fun e w' => e = .returned (.bool true) ∧ w = w' := by
  have hc : w.cell? ⟨p, 0, none⟩ = some (.bool true) := h.blk.cell 0
  go_enter Try.func45, Try.ntmps45
  go_wp2
  go_ret
  exact ⟨rfl, rfl⟩

set_option maxRecDepth 100000 in
theorem wis_no (v : Value) (w : World) (h : NoWr w v) :
    Calls Try.prog 45 #[v] w fun e w' => e = .returned (.bool false) ∧ w = w' := by
  rcases h with rfl | ⟨p, rfl, hc⟩
  · go_enter Try.func45, Try.ntmps45
    go_wp2
    go_ret
    exact ⟨rfl, rfl⟩
  · go_enter Try.func45, Try.ntmps45
    go_wp2
    go_ret
    exact ⟨rfl, rfl⟩
end Go.Proofs.Ytfhceblmjahgjaa
