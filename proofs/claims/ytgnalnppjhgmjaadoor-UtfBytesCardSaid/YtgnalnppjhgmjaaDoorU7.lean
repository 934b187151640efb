/- Contract of the document's Encode for layer 2 (package stickfulref02): the bytes of all numbers. Conditions: at most 5000 numbers, which lie where the slice says. -/
import Derived.Test.YtgnalnppjhgmjaaDoorU6
namespace Go.Proofs.YtgnalnppjhgmjaaDoor
open Go.ChangeShapes Go.WideShapes Go.ChangeAt Go.RowKit

theorem bs_append (a b : ByteArray) : bs (a ++ b) = bs a ++ bs b := by
  unfold bs
  simp [ByteArray.data_append]

theorem bs_inj (a b : ByteArray) (h : bs a = bs b) : a = b := by
  unfold bs at h
  have h2 : a.data.toList = b.data.toList := List.map_inj_right (fun x y e => UInt8.toNat_inj.1 e) |>.1 h
  have h3 : a.data = b.data := Array.toList_inj.1 h2
  cases a; cases b; simp_all

theorem enc_snoc (zs : List Int) (k : Nat) (h : k < zs.length) : Utf.enc (zs.take (k + 1)) = Utf.enc (zs.take k) ++ Utf.one (zs.getD k 0) := by
  unfold Utf.enc
  rw [List.take_succ_eq_append_getElem h, List.flatMap_append]
  simp only [List.getD, List.getElem?_eq_getElem h, Option.getD_some, List.flatMap_cons, List.flatMap_nil, List.append_nil]

theorem one_len (r : Int) : (Utf.one r).length ≤ 4 := by
  unfold Utf.one Utf.bytes
  split
  · simp
  · split
    · simp
    · split <;> simp

theorem enc_len (zs : List Int) : (Utf.enc zs).length ≤ 4 * zs.length := by
  induction zs with
  | nil => simp [Utf.enc]
  | cons z zs ih =>
    have h := one_len z
    have e : Utf.enc (z :: zs) = Utf.one z ++ Utf.enc zs := by simp [Utf.enc]
    rw [e, List.length_append, List.length_cons]
    omega

set_option maxRecDepth 100000 in
set_option maxHeartbeats 1000000 in
theorem rencode_nil (w : World) :
    Calls Tryd.prog 17 #[.slice none 0 0] w fun e w' => ∃ s, e = .returned (.string s) ∧ bs s = [] ∧ Below w.heap.size w w' := by
  go_enter Tryd.func17, Tryd.ntmps17
  go_wp2_with fail
  refine wp_loop_rounds 1 ?_
  rw [rounds_succ]
  go_wp2_with fail
  go_ret
  exact ⟨_, rfl, rfl, Below.refl _ _⟩

set_option maxRecDepth 100000 in
set_option maxHeartbeats 2000000 in
theorem rencode_some (a : Addr) (zs : List Int) (cap : Nat) (w : World) (hn : zs.length ≤ 5000) (ha : zs.length = 0 ∨ a.block < w.heap.size)
    (hc : ∀ j, j < zs.length → w.cell? (a.add j) = some (.int .i32 (zs.getD j 0))) :
    Calls Tryd.prog 17 #[.slice (some a) zs.length cap] w fun e w' => ∃ s, e = .returned (.string s) ∧ bs s = Utf.enc zs ∧ Below w.heap.size w w' := by
  have HA := Lib.hid ha
  have HC := Lib.hid hc
  clear ha hc
  go_enter Tryd.func17, Tryd.ntmps17
  go_wp2_with fail
  go_loopg [3, 4] 6000 (fun g s3 s4 wx => Below w.heap.size w wx ∧ ∃ (k : Nat) (s : ByteArray), s4 = .int .i64 k ∧ s3 = .string s ∧ k ≤ zs.length ∧ g = 6000 - k ∧ s.size ≤ 4 * k ∧ Hid (bs s = Utf.enc (zs.take k)))
  case atStart => exact ⟨Below.refl _ _, 0, _, rfl, rfl, by omega, rfl, Nat.le_refl _, rfl⟩
  case round =>
    obtain ⟨bel, k, s, rfl, rfl, hk, rfl, hsz, HS⟩ := hrel
    by_cases hlt : k < zs.length
    · have hcell : wr.cell? (a.add k) = some (.int .i32 (zs.getD k 0)) := by
        rw [bel.cell (by rw [block_add]; rcases HA.out with h | h <;> omega)]
        exact HC.out k hlt
      have HT := Lib.hid (enc_snoc zs k hlt)
      generalize zs.getD k 0 = x at *
      go_wp2_with fail
      refine (one_any x _).mono ?_
      rintro e w1 ⟨t, rfl, ht, b1⟩
      have HT2 := Lib.hid ht
      have hl : t.size ≤ 4 := by rw [← bs_len, ht]; exact one_len x
      clear ht hcell
      go_wp2_with fail
      go_roundg (6000 - (k + 1))
      case measure => omega
      case rel => exact ⟨bel.trans (b1.mono bel.size), k + 1, s ++ t, by go_num, rfl, by omega, rfl, by rw [ByteArray.size_append]; omega, by show _ = _; rw [bs_append, HS.out, HT2.out, HT.out]⟩
    · obtain rfl : k = zs.length := by omega
      rw [List.take_length] at HS
      go_wp2_with fail
      go_ret
      exact ⟨_, rfl, HS.out, bel⟩
end Go.Proofs.YtgnalnppjhgmjaaDoor
