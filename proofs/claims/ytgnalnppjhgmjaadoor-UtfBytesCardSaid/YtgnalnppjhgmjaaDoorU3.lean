/- Contract of the document's answers for layer 2 (package stickfulref02): point. Condition: the text has one to four bytes. -/
import Derived.Test.YtgnalnppjhgmjaaDoorU2
namespace Go.Proofs.YtgnalnppjhgmjaaDoor
open Go.ChangeShapes Go.WideShapes Go.ChangeAt Go.RowKit

set_option maxRecDepth 100000 in
set_option maxHeartbeats 1000000 in
theorem point_1 (s : ByteArray) (a : UInt8) (w : World) (h : s.size = 1) (h0 : s[0] = a) :
    Calls Tryd.prog 22 #[.string s] w fun e w' => e = .returned (.int .i32 ((a.toNat : Int))) ∧ w = w' := by
  have ba := byte_le a
  go_enter Tryd.func22, Tryd.ntmps22
  go_wp2_with fail
  go_ret
  exact ⟨ret1 (by omega), rfl⟩

set_option maxRecDepth 100000 in
set_option maxHeartbeats 1000000 in
theorem point_2 (s : ByteArray) (a b : UInt8) (w : World) (h : s.size = 2) (h0 : s[0] = a) (h1 : s[1] = b) :
    Calls Tryd.prog 22 #[.string s] w fun e w' => e = .returned (.int .i32 (64 * ((a.toNat : Int) - 192) + b.toNat - 128)) ∧ w = w' := by
  have ba := byte_le a
  have bb := byte_le b
  go_enter Tryd.func22, Tryd.ntmps22
  go_wp2_with fail
  refine wp_loop_rounds 2 ?_
  rw [rounds_succ]
  go_wp2_with fail
  rw [rounds_succ]
  go_wp2_with fail
  go_ret
  exact ⟨ret1 (by omega), rfl⟩

set_option maxRecDepth 100000 in
set_option maxHeartbeats 1000000 in
theorem point_3 (s : ByteArray) (a b c : UInt8) (w : World) (h : s.size = 3) (h0 : s[0] = a) (h1 : s[1] = b) (h2 : s[2] = c) :
    Calls Tryd.prog 22 #[.string s] w fun e w' => e = .returned (.int .i32 (64 * (64 * ((a.toNat : Int) - 224) + b.toNat - 128) + c.toNat - 128)) ∧ w = w' := by
  have ba := byte_le a
  have bb := byte_le b
  have bc := byte_le c
  go_enter Tryd.func22, Tryd.ntmps22
  go_wp2_with fail
  refine wp_loop_rounds 3 ?_
  rw [rounds_succ]
  go_wp2_with fail
  rw [rounds_succ]
  go_wp2_with fail
  rw [rounds_succ]
  go_wp2_with fail
  go_ret
  exact ⟨ret1 (by omega), rfl⟩

set_option maxRecDepth 100000 in
set_option maxHeartbeats 1000000 in
theorem point_4 (s : ByteArray) (a b c d : UInt8) (w : World) (h : s.size = 4) (h0 : s[0] = a) (h1 : s[1] = b) (h2 : s[2] = c) (h3 : s[3] = d) :
    Calls Tryd.prog 22 #[.string s] w fun e w' => e = .returned (.int .i32 (64 * (64 * (64 * ((a.toNat : Int) - 240) + b.toNat - 128) + c.toNat - 128) + d.toNat - 128)) ∧ w = w' := by
  have ba := byte_le a
  have bb := byte_le b
  have bc := byte_le c
  have bd := byte_le d
  go_enter Tryd.func22, Tryd.ntmps22
  go_wp2_with fail
  refine wp_loop_rounds 4 ?_
  rw [rounds_succ]
  go_wp2_with fail
  rw [rounds_succ]
  go_wp2_with fail
  rw [rounds_succ]
  go_wp2_with fail
  rw [rounds_succ]
  go_wp2_with fail
  go_ret
  exact ⟨ret1 (by omega), rfl⟩

theorem bs_cons (s : ByteArray) (k : Nat) (h : k < s.size) : ∃ a : UInt8, s[k] = a ∧ (bs s).drop k = a.toNat :: (bs s).drop (k + 1) := ⟨s[k], rfl, bs_drop s k h⟩

theorem bs_end (s : ByteArray) (k : Nat) (h : s.size ≤ k) : (bs s).drop k = [] := List.drop_eq_nil_of_le (by rw [bs_len]; exact h)

theorem point_any (s : ByteArray) (w : World) (h1 : 1 ≤ s.size) (h4 : s.size ≤ 4) :
    Calls Tryd.prog 22 #[.string s] w fun e w' => e = .returned (.int .i32 (Utf.point (bs s))) ∧ w = w' := by
  obtain ⟨a, ha, da⟩ := bs_cons s 0 (by omega)
  rw [List.drop_zero] at da
  have hc : s.size = 1 ∨ s.size = 2 ∨ s.size = 3 ∨ s.size = 4 := by omega
  rcases hc with h | h | h | h
  · rw [da, bs_end s 1 (by omega)]
    exact point_1 s a w h ha
  · obtain ⟨b, hb, db⟩ := bs_cons s 1 (by omega)
    rw [da, db, bs_end s 2 (by omega)]
    exact point_2 s a b w h ha hb
  · obtain ⟨b, hb, db⟩ := bs_cons s 1 (by omega)
    obtain ⟨c, hc, dc⟩ := bs_cons s 2 (by omega)
    rw [da, db, dc, bs_end s 3 (by omega)]
    exact point_3 s a b c w h ha hb hc
  · obtain ⟨b, hb, db⟩ := bs_cons s 1 (by omega)
    obtain ⟨c, hc, dc⟩ := bs_cons s 2 (by omega)
    obtain ⟨d, hd, dd⟩ := bs_cons s 3 (by omega)
    rw [da, db, dc, dd, bs_end s 4 (by omega)]
    exact point_4 s a b c d w h ha hb hc hd
end Go.Proofs.YtgnalnppjhgmjaaDoor
