/- Contracts of package pack: number. Condition: the text is no longer than a string may be. -/
import Derived.Test.YtfhceblmjahgjaaPkW1
namespace Go.Proofs.Ytfhceblmjahgjaa
open Go.ChangeShapes Go.WideShapes Go.ChangeAt Go.RowKit

theorem bs_nil (s : ByteArray) (h : s.size = 0) : s = ByteArray.empty := bs_inj _ _ (by
  have : bs s = [] := List.length_eq_zero_iff.1 (by rw [bs_len]; exact h)
  rw [this]
  rfl)
theorem toList_ne (s : ByteArray) (h : 0 < s.size) : s.toList.isEmpty = false := by
  rw [ByteArray.toList_eq]
  cases s with
  | mk d =>
    cases d with
    | mk l =>
      cases l with
      | nil => simp [ByteArray.size] at h
      | cons a r => rfl

theorem ret2 {k l : IntKind} {a b c d : Int} (h : a = c) (h' : b = d) : Ending.returned (.tuple #[.int k a, .int l b]) = .returned (.tuple #[.int k c, .int l d]) := by rw [h, h']

theorem or_low (x b : Nat) (hx : x < 72057594037927936) (hb : b < 256) : bits .or .u64 ((x * 256 : Nat) : Int) (b : Int) = ((256 * x + b : Nat) : Int) := by
  have h1 : (BitVec.ofInt 64 ((x * 256 : Nat) : Int)).toNat = x * 256 := by
    rw [BitVec.ofInt_natCast, BitVec.toNat_ofNat]; exact Nat.mod_eq_of_lt (by omega)
  have h2 : (BitVec.ofInt 64 (b : Int)).toNat = b := by
    rw [BitVec.ofInt_natCast, BitVec.toNat_ofNat]; exact Nat.mod_eq_of_lt (by omega)
  show IntKind.u64.wrap ((BitVec.ofInt 64 ((x * 256 : Nat) : Int) ||| BitVec.ofInt 64 (b : Int)).toNat : Int) = _
  rw [BitVec.toNat_or, h1, h2]
  have e : x * 256 ||| b = x * 256 + b := by
    have := Nat.two_pow_add_eq_or_of_lt (i := 8) (b := b) (by omega) x
    rw [Nat.mul_comm (2 ^ 8) x] at this
    exact this.symm
  rw [e]
  show ((x * 256 + b : Nat) : Int) % 18446744073709551616 = _
  omega

set_option maxRecDepth 100000 in
set_option maxHeartbeats 1000000 in
theorem number_nil (w : World) :
    Calls Try.prog 62 #[.string ByteArray.empty] w fun e w' => e = .returned (.tuple #[.int .u64 0, .int .i64 0]) ∧ w = w' := by
  go_enter Try.func62, Try.ntmps62
  go_wp2_with fail
  go_ret2
  exact ⟨rfl, rfl⟩

set_option maxRecDepth 100000 in
set_option maxHeartbeats 1000000 in
theorem number_low (s : ByteArray) (w : World) (h0 : 0 < s.size) (c : UInt8) (hc : s[0] = c) (hl : c.toNat < 248) :
    Calls Try.prog 62 #[.string s] w fun e w' => e = .returned (.tuple #[.int .u64 (c.toNat : Nat), .int .i64 1]) ∧ w = w' := by
  have hne := toList_ne s h0
  have hz : (c.toNat : Int) < 248 := by omega
  have hcb := byte_le c
  go_enter Try.func62, Try.ntmps62
  go_wp2_with fail
  go_ret2
  exact ⟨rfl, rfl⟩

set_option maxRecDepth 100000 in
set_option maxHeartbeats 1000000 in
theorem number_short (s : ByteArray) (w : World) (h0 : 0 < s.size) (c : UInt8) (hc : s[0] = c) (hl : 248 ≤ c.toNat) (hm : s.size ≤ c.toNat - 247) :
    Calls Try.prog 62 #[.string s] w fun e w' => e = .returned (.tuple #[.int .u64 0, .int .i64 0]) ∧ w = w' := by
  have hne := toList_ne s h0
  have hz : ¬ (c.toNat : Int) < 248 := by omega
  have hcb := byte_le c
  have h2 : (s.size : Int) ≤ (c.toNat : Int) - 247 := by omega
  go_enter Try.func62, Try.ntmps62
  go_wp2_with fail
  go_ret2
  exact ⟨rfl, rfl⟩

set_option maxRecDepth 100000 in
set_option maxHeartbeats 2000000 in
theorem number_high (s : ByteArray) (w : World) (m : Nat) (h1 : 1 ≤ m) (h8 : m ≤ 8) (hs : s.size ≤ 9223372036854775807) (h0 : 0 < s.size) (c : UInt8) (hc : s[0] = c) (hcm : c.toNat = 247 + m) (hm : m < s.size) (a b : Nat) (hab : (a, b) = if Pk.fol (Pk.val (((bs s).drop 1).take m)) = m then (Pk.val (((bs s).drop 1).take m), 1 + m) else (0, 0)) :
    Calls Try.prog 62 #[.string s] w fun e w' => e = .returned (.tuple #[.int .u64 a, .int .i64 b]) ∧ w = w' := by
  have HAB := Lib.hid hab
  clear hab
  have hne := toList_ne s h0
  have hcb := byte_le c
  have hz : ¬ (c.toNat : Int) < 248 := by omega
  have he : (c.toNat : Int) - 247 = (m : Int) := by omega
  have h2 : ¬ (s.size : Int) ≤ (m : Int) := by omega
  clear hcm
  go_enter Try.func62, Try.ntmps62
  go_wp2_with fail
  clear he h2 hz
  have hB : ∀ k, k ≤ m → Pk.val (((bs s).drop 1).take k) < 256 ^ k := fun k hk => by
    have h := Pk.val_lt (((bs s).drop 1).take k) (fun b hb => bs_lt s b (List.mem_of_mem_drop (List.mem_of_mem_take hb)))
    have hl : (((bs s).drop 1).take k).length = k := by rw [List.length_take, List.length_drop, bs_len]; omega
    rwa [hl] at h
  have HB := Lib.hid hB
  clear hB
  go_loopg [2, 23] m (fun g s2 s23 wx => w = wx ∧ ∃ (k x : Nat), s2 = .int .u64 x ∧ s23 = .int .i64 k ∧ k + g = m ∧ Hid (x = Pk.val (((bs s).drop 1).take k)))
  case atStart => exact ⟨rfl, 0, 0, rfl, rfl, by omega, rfl⟩
  case round =>
    obtain ⟨rfl, k, x, rfl, rfl, hk, HX⟩ := hrel
    by_cases hlt : k < m
    · have hb := HB.out k (by omega)
      rw [← HX.out] at hb
      have hp : 256 ^ k ≤ 256 ^ 7 := Nat.pow_le_pow_right (by omega) (by omega)
      have hx7 : x < 72057594037927936 := Nat.lt_of_lt_of_le hb (Nat.le_trans hp (by decide))
      clear hb hp
      have hi : 1 + k < s.size := by omega
      obtain ⟨d, hd⟩ : ∃ d : UInt8, s[1 + k] = d := ⟨_, rfl⟩
      have hdb := byte_le d
      have hdz : (1 : Int) + (k : Int) < (s.size : Int) := by omega
      obtain ⟨y, hy⟩ : ∃ y : Nat, 256 * x + d.toNat = y := ⟨_, rfl⟩
      have ho : bits .or .u64 ((x : Int) * 256) (d.toNat : Int) = (y : Int) := by
        have := or_low x d.toNat hx7 (by omega)
        rw [hy] at this
        simpa using this
      have hnext : Pk.val (((bs s).drop 1).take (k + 1)) = y := by
        have e1 : ((bs s).drop 1).take (k + 1) = ((bs s).drop 1).take k ++ [d.toNat] := by
          have hlen : k < ((bs s).drop 1).length := by rw [List.length_drop, bs_len]; omega
          rw [List.take_succ_eq_append_getElem hlen]
          congr 2
          rw [List.getElem_drop]
          have := bs_get s (1 + k) hi
          rw [hd, List.getElem?_eq_getElem (by rw [bs_len]; exact hi)] at this
          exact Option.some.inj this
        rw [e1, Pk.val_snoc, ← HX.out]
        exact hy
      have HN := Lib.hid hnext
      clear hnext hy
      go_wp2_with fail
      go_roundg (m - (k + 1))
      case measure => omega
      case rel => exact ⟨rfl, k + 1, y, rfl, by go_num, by omega, HN.out.symm⟩
    · obtain rfl : k = m := by omega
      have hb := HB.out k (by omega)
      rw [← HX.out] at hb
      have hx8 : x < 18446744073709551616 := Nat.lt_of_lt_of_le hb (Nat.le_trans (Nat.pow_le_pow_right (by omega) h8) (by decide))
      have C := Lib.hid (follow_any x w hx8)
      have hf8 := fol_le x hx8
      clear hb
      obtain ⟨f, hf⟩ : ∃ f, Pk.fol x = f := ⟨_, rfl⟩
      rw [hf] at C hf8
      have HF := Lib.hid hf
      clear hf
      by_cases hfk : f = k
      · subst hfk
        go_wp2_with fail
        refine C.out.mono ?_
        rintro e w' ⟨rfl, rfl⟩
        go_wp2_with fail
        go_ret2
        have e := HAB.out
        rw [← HX.out, if_pos HF.out, Prod.mk.injEq] at e
        exact ⟨ret2 (by omega) (by omega), rfl⟩
      · have hn1 : ((f : Int) != (k : Int)) = true := by simp; omega
        go_wp2_with fail
        refine C.out.mono ?_
        rintro e w' ⟨rfl, rfl⟩
        go_wp2_with fail
        go_ret2
        have e := HAB.out
        rw [← HX.out, if_neg (by rw [HF.out]; exact hfk), Prod.mk.injEq] at e
        exact ⟨ret2 (by omega) (by omega), rfl⟩

theorem number_any (s : ByteArray) (w : World) (hs : s.size ≤ 9223372036854775807) :
    Calls Try.prog 62 #[.string s] w fun e w' => e = .returned (.tuple #[.int .u64 ((Pk.numOf (bs s)).1 : Nat), .int .i64 ((Pk.numOf (bs s)).2 : Nat)]) ∧ w = w' := by
  rcases Nat.eq_zero_or_pos s.size with h0 | h0
  · obtain rfl := bs_nil s h0
    exact number_nil w
  · obtain ⟨c, hc⟩ : ∃ c : UInt8, s[0] = c := ⟨_, rfl⟩
    have hcb := byte_le c
    have hd := bs_drop s 0 h0
    rw [List.drop_zero, hc] at hd
    by_cases h1 : c.toNat < 248
    · rw [hd, Pk.numOf_low _ _ h1]
      exact number_low s w h0 c hc h1
    · by_cases h2 : s.size ≤ c.toNat - 247
      · have hlen := bs_len s
        rw [hd, List.length_cons] at hlen
        rw [hd, Pk.numOf_short _ _ (by omega) (by omega)]
        exact number_short s w h0 c hc (by omega) h2
      · obtain ⟨m, hm⟩ : ∃ m, c.toNat = 247 + m := ⟨c.toNat - 247, by omega⟩
        have e : bs s = (247 + m) :: (((bs s).drop 1).take m ++ ((bs s).drop 1).drop m) := by
          rw [List.take_append_drop, ← hm]
          exact hd
        have hh := Pk.numOf_high m (((bs s).drop 1).take m) (((bs s).drop 1).drop m) (by rw [List.length_take, List.length_drop, bs_len]; omega) (by omega) (fun b hb => bs_lt s b (List.mem_of_mem_drop (List.mem_of_mem_take hb)))
        rw [← e] at hh
        exact number_high s w m (by omega) (by omega) hs h0 c hc hm (by omega) _ _ hh
end Go.Proofs.Ytfhceblmjahgjaa
