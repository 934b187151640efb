/- The walk of the law PackApart: it answers true. -/
import Derived.Test.YtbfdfaadioaldaaPkAp1
import Derived.ChangeOld
namespace Go.Proofs.Ytbfdfaadioaldaa.packApart
open Go.ChangeShapes Go.WideShapes Go.ChangeAt Go.RowKit
open Go.ChangeMaps (open_string shut_string)

theorem own : ownKnob Try.prog.godebug = none := by kernel_rfl
theorem laidOut : laidOutB Try.prog = true := by kernel_rfl

abbrev Args (n m : Nat) (s t : ByteArray) : Array Value := #[.int .u64 n, .int .u64 m, .agg #[.string s, .string t]]
abbrev F := 8

set_option maxRecDepth 100000 in
set_option maxHeartbeats 2000000 in
theorem walk_long (n m : Nat) (s t : ByteArray) (w : World) (h : 300 < s.size ∨ 300 < t.size) :
    Calls Try.prog F (Args n m s t) w fun e w' => e = .returned (.bool true) ∧ Below w.heap.size w w' := by
  by_cases h1 : 300 < s.size
  · have hz : (300 : Int) < (s.size : Int) := by omega
    clear h
    go_enter Try.func8, Try.ntmps8
    go_wp2_with fail
    go_quiet (fail)
    go_wp2_with fail
    refine (head_any _).mono ?_
    rintro e w1 ⟨rfl, b1⟩
    have b2 := below_seq (below_drewN (below_alloc w _) _) b1
    clear b1
    go_wp2_with fail
    go_ret
    exact ⟨rfl, b2⟩
  · have hz : ¬ (300 : Int) < (s.size : Int) := by omega
    have hz2 : (300 : Int) < (t.size : Int) := by omega
    clear h
    go_enter Try.func8, Try.ntmps8
    go_wp2_with fail
    go_quiet (fail)
    go_wp2_with fail
    refine (head_any _).mono ?_
    rintro e w1 ⟨rfl, b1⟩
    have b2 := below_seq (below_drewN (below_alloc w _) _) b1
    clear b1
    go_wp2_with fail
    go_ret
    exact ⟨rfl, b2⟩

/-- a uint64 as an int64 -/
theorem asInt (n : Nat) (h : n < 18446744073709551616) : ∃ z : Int, IntKind.i64.wrap (n : Int) = z ∧ (-9223372036854775808 ≤ z ∧ z ≤ 9223372036854775807) ∧ (z - n = 0 ∨ z - n = -18446744073709551616) := by
  refine ⟨_, rfl, ?_, ?_⟩
  · rw [IntKind.wrap_i64]
    omega
  · rw [IntKind.wrap_i64]
    omega

set_option maxRecDepth 100000 in
set_option maxHeartbeats 4000000 in
theorem walk_eq_eq (n m : Nat) (s t : ByteArray) (w : World) (hn : n < 18446744073709551616) (hm : m < 18446744073709551616) (hs : s.size ≤ 300) (ht : t.size ≤ 300) (hnm : n = m) (hst : s = t) :
    Calls Try.prog F (Args n m s t) w fun e w' => e = .returned (.bool true) ∧ Below w.heap.size w w' := by
  have hz : ¬ (300 : Int) < (s.size : Int) := by omega
  have hz2 : ¬ (300 : Int) < (t.size : Int) := by omega
  obtain ⟨x, hx, okx, dx⟩ := asInt n hn
  obtain ⟨y, hy, oky, dy⟩ := asInt m hm
  have hxy : decide (x = y) = true := by simp; omega
  have eqn : ((n : Int) == (m : Int)) = true := by simp; omega
  have CI := Lib.hid (fun w => ints_any x y w okx oky true hxy)
  have C1 := Lib.hid (fun w => one_any n s w hn (by omega))
  have C2 := Lib.hid (fun w => one_any m t w hm (by omega))
  have AN : Hid (∀ a c : ByteArray, bs a = Pk.num n → bs c = Pk.num m → a = c) := fun a c ha hc => by
    subst hnm
    exact bs_inj a c (ha.trans hc.symm)
  have AS : Hid (∀ b d : ByteArray, bs b = txt s → bs d = txt t → b = d) := fun b d hb hd => by
    subst hst
    exact bs_inj b d (hb.trans hd.symm)
  subst hst
  subst hnm
  obtain rfl : x = y := by omega
  clear hy
  clear okx oky dx dy hxy
  go_enter Try.func8, Try.ntmps8
  go_wp2_with fail
  go_quiet (fail)
  go_wp2_with fail
  with_reducible refine (C1.out _).mono ?_
  rintro e w1 ⟨⟨a, b, rfl, ha, hb⟩, b1⟩
  have B1 := Lib.hid (below_seq (below_drewN (below_alloc w _) _) b1)
  have HA := Lib.hid ha
  have HB := Lib.hid hb
  clear b1 ha hb
  go_wp2_with fail
  with_reducible refine (C2.out _).mono ?_
  rintro e w2 ⟨⟨c, d, rfl, hc, hd⟩, b2⟩
  have B2 := Lib.hid (below_seq B1.out b2)
  have FN := Lib.hid (AN.out a c HA.out hc)
  have FS := Lib.hid (AS.out b d HB.out hd)
  clear b2 hc hd B1 HA HB
  go_wp2_with fail
  with_reducible refine (CI.out _).mono ?_
  rintro e w3 ⟨⟨z, rfl⟩, b3⟩
  have B3 := Lib.hid (below_seq B2.out b3)
  clear b3 B2
  obtain rfl := FN.out
  obtain rfl := FS.out
  go_wp2_with fail

  refine (head_any _).mono ?_
  rintro e w4 ⟨rfl, b4⟩
  have B4 := Lib.hid (below_seq B3.out b4)
  clear b4
  go_wp2_with fail
  go_ret
  exact ⟨rfl, B4.out⟩

set_option maxRecDepth 100000 in
set_option maxHeartbeats 4000000 in
theorem walk_eq_ne (n m : Nat) (s t : ByteArray) (w : World) (hn : n < 18446744073709551616) (hm : m < 18446744073709551616) (hs : s.size ≤ 300) (ht : t.size ≤ 300) (hnm : n = m) (hst : s ≠ t) :
    Calls Try.prog F (Args n m s t) w fun e w' => e = .returned (.bool true) ∧ Below w.heap.size w w' := by
  have hz : ¬ (300 : Int) < (s.size : Int) := by omega
  have hz2 : ¬ (300 : Int) < (t.size : Int) := by omega
  obtain ⟨x, hx, okx, dx⟩ := asInt n hn
  obtain ⟨y, hy, oky, dy⟩ := asInt m hm
  have hxy : decide (x = y) = true := by simp; omega
  have eqn : ((n : Int) == (m : Int)) = true := by simp; omega
  have CI := Lib.hid (fun w => ints_any x y w okx oky true hxy)
  have C1 := Lib.hid (fun w => one_any n s w hn (by omega))
  have C2 := Lib.hid (fun w => one_any m t w hm (by omega))
  have AN : Hid (∀ a c : ByteArray, bs a = Pk.num n → bs c = Pk.num m → a = c) := fun a c ha hc => by
    subst hnm
    exact bs_inj a c (ha.trans hc.symm)
  have AS : Hid (∀ b d : ByteArray, bs b = txt s → bs d = txt t → bs b ≠ bs d ∧ (∀ r, bs d ≠ bs b ++ r) ∧ ∀ r, bs b ≠ bs d ++ r) := fun b d hb hd => by
    have oks : Pk.OkS (bs s) := ⟨by rw [bs_len]; omega, bs_lt s⟩
    have okt : Pk.OkS (bs t) := ⟨by rw [bs_len]; omega, bs_lt t⟩
    refine ⟨fun e => hst ?_, fun r e => hst ?_, fun r e => hst ?_⟩
    · rw [hb, hd] at e
      exact bs_inj _ _ (Pk.wayText.apart oks okt [] (by rw [List.append_nil]; exact e.symm)).1
    · rw [hb, hd] at e
      exact bs_inj _ _ (Pk.wayText.apart oks okt r e).1
    · rw [hb, hd] at e
      exact (bs_inj _ _ (Pk.wayText.apart okt oks r e).1).symm
  have eqs := beq_ne s t (fun e => hst (bs_inj _ _ e))
  have eqs2 := toList_bs s t (fun e => hst (bs_inj _ _ e))
  subst hnm
  obtain rfl : x = y := by omega
  clear hy
  clear okx oky dx dy hxy hst
  go_enter Try.func8, Try.ntmps8
  go_wp2_with fail
  go_quiet (fail)
  go_wp2_with fail
  with_reducible refine (C1.out _).mono ?_
  rintro e w1 ⟨⟨a, b, rfl, ha, hb⟩, b1⟩
  have B1 := Lib.hid (below_seq (below_drewN (below_alloc w _) _) b1)
  have HA := Lib.hid ha
  have HB := Lib.hid hb
  clear b1 ha hb
  go_wp2_with fail
  with_reducible refine (C2.out _).mono ?_
  rintro e w2 ⟨⟨c, d, rfl, hc, hd⟩, b2⟩
  have B2 := Lib.hid (below_seq B1.out b2)
  have FN := Lib.hid (AN.out a c HA.out hc)
  have FS := Lib.hid (AS.out b d HB.out hd)
  clear b2 hc hd B1 HA HB
  go_wp2_with fail
  with_reducible refine (CI.out _).mono ?_
  rintro e w3 ⟨⟨z, rfl⟩, b3⟩
  have B3 := Lib.hid (below_seq B2.out b3)
  clear b3 B2
  obtain rfl := FN.out
  have q3 := toList_bs _ _ FS.out.1
  have q4 := beq_ne _ _ FS.out.1
  go_wp2_with fail
  refine (begins_no b d _ FS.out.2.1).mono ?_
  rintro e w' ⟨rfl, rfl⟩
  go_wp2_with fail
  refine (begins_no d b _ FS.out.2.2).mono ?_
  rintro e w' ⟨rfl, rfl⟩
  go_wp2_with fail
  refine (head_any _).mono ?_
  rintro e w4 ⟨rfl, b4⟩
  have B4 := Lib.hid (below_seq B3.out b4)
  clear b4
  go_wp2_with fail
  go_ret
  exact ⟨rfl, B4.out⟩

set_option maxRecDepth 100000 in
set_option maxHeartbeats 4000000 in
theorem walk_ne_eq (n m : Nat) (s t : ByteArray) (w : World) (hn : n < 18446744073709551616) (hm : m < 18446744073709551616) (hs : s.size ≤ 300) (ht : t.size ≤ 300) (hnm : n ≠ m) (hst : s = t) :
    Calls Try.prog F (Args n m s t) w fun e w' => e = .returned (.bool true) ∧ Below w.heap.size w w' := by
  have hz : ¬ (300 : Int) < (s.size : Int) := by omega
  have hz2 : ¬ (300 : Int) < (t.size : Int) := by omega
  obtain ⟨x, hx, okx, dx⟩ := asInt n hn
  obtain ⟨y, hy, oky, dy⟩ := asInt m hm
  have hxy : decide (x = y) = false := by simp; omega
  have eqn : ((n : Int) == (m : Int)) = false := by simp; omega
  have CI := Lib.hid (fun w => ints_any x y w okx oky false hxy)
  have C1 := Lib.hid (fun w => one_any n s w hn (by omega))
  have C2 := Lib.hid (fun w => one_any m t w hm (by omega))
  have AN : Hid (∀ a c : ByteArray, bs a = Pk.num n → bs c = Pk.num m → bs a ≠ bs c ∧ (∀ r, bs c ≠ bs a ++ r) ∧ ∀ r, bs a ≠ bs c ++ r) := fun a c ha hc => by
    refine ⟨fun e => hnm ?_, fun r e => hnm ?_, fun r e => hnm ?_⟩
    · rw [ha, hc] at e
      exact (Pk.wayNum.apart (x := n) (y := m) hn hm [] (by rw [List.append_nil]; exact e.symm)).1
    · rw [ha, hc] at e
      exact (Pk.wayNum.apart (x := n) (y := m) hn hm r e).1
    · rw [ha, hc] at e
      exact (Pk.wayNum.apart (x := m) (y := n) hm hn r e).1.symm
  have AS : Hid (∀ b d : ByteArray, bs b = txt s → bs d = txt t → b = d) := fun b d hb hd => by
    subst hst
    exact bs_inj b d (hb.trans hd.symm)
  subst hst
  clear okx oky dx dy hxy hnm
  go_enter Try.func8, Try.ntmps8
  go_wp2_with fail
  go_quiet (fail)
  go_wp2_with fail
  with_reducible refine (C1.out _).mono ?_
  rintro e w1 ⟨⟨a, b, rfl, ha, hb⟩, b1⟩
  have B1 := Lib.hid (below_seq (below_drewN (below_alloc w _) _) b1)
  have HA := Lib.hid ha
  have HB := Lib.hid hb
  clear b1 ha hb
  go_wp2_with fail
  with_reducible refine (C2.out _).mono ?_
  rintro e w2 ⟨⟨c, d, rfl, hc, hd⟩, b2⟩
  have B2 := Lib.hid (below_seq B1.out b2)
  have FN := Lib.hid (AN.out a c HA.out hc)
  have FS := Lib.hid (AS.out b d HB.out hd)
  clear b2 hc hd B1 HA HB
  go_wp2_with fail
  with_reducible refine (CI.out _).mono ?_
  rintro e w3 ⟨⟨z, rfl⟩, b3⟩
  have B3 := Lib.hid (below_seq B2.out b3)
  clear b3 B2
  have q1 := toList_bs _ _ FN.out.1
  have q2 := beq_ne _ _ FN.out.1
  obtain rfl := FS.out
  go_wp2_with fail
  refine (begins_no a c _ FN.out.2.1).mono ?_
  rintro e w' ⟨rfl, rfl⟩
  go_wp2_with fail
  refine (begins_no c a _ FN.out.2.2).mono ?_
  rintro e w' ⟨rfl, rfl⟩
  go_wp2_with fail
  refine (head_any _).mono ?_
  rintro e w4 ⟨rfl, b4⟩
  have B4 := Lib.hid (below_seq B3.out b4)
  clear b4
  go_wp2_with fail
  go_ret
  exact ⟨rfl, B4.out⟩

set_option maxRecDepth 100000 in
set_option maxHeartbeats 4000000 in
theorem walk_ne_ne (n m : Nat) (s t : ByteArray) (w : World) (hn : n < 18446744073709551616) (hm : m < 18446744073709551616) (hs : s.size ≤ 300) (ht : t.size ≤ 300) (hnm : n ≠ m) (hst : s ≠ t) :
    Calls Try.prog F (Args n m s t) w fun e w' => e = .returned (.bool true) ∧ Below w.heap.size w w' := by
  have hz : ¬ (300 : Int) < (s.size : Int) := by omega
  have hz2 : ¬ (300 : Int) < (t.size : Int) := by omega
  obtain ⟨x, hx, okx, dx⟩ := asInt n hn
  obtain ⟨y, hy, oky, dy⟩ := asInt m hm
  have hxy : decide (x = y) = false := by simp; omega
  have eqn : ((n : Int) == (m : Int)) = false := by simp; omega
  have CI := Lib.hid (fun w => ints_any x y w okx oky false hxy)
  have C1 := Lib.hid (fun w => one_any n s w hn (by omega))
  have C2 := Lib.hid (fun w => one_any m t w hm (by omega))
  have AN : Hid (∀ a c : ByteArray, bs a = Pk.num n → bs c = Pk.num m → bs a ≠ bs c ∧ (∀ r, bs c ≠ bs a ++ r) ∧ ∀ r, bs a ≠ bs c ++ r) := fun a c ha hc => by
    refine ⟨fun e => hnm ?_, fun r e => hnm ?_, fun r e => hnm ?_⟩
    · rw [ha, hc] at e
      exact (Pk.wayNum.apart (x := n) (y := m) hn hm [] (by rw [List.append_nil]; exact e.symm)).1
    · rw [ha, hc] at e
      exact (Pk.wayNum.apart (x := n) (y := m) hn hm r e).1
    · rw [ha, hc] at e
      exact (Pk.wayNum.apart (x := m) (y := n) hm hn r e).1.symm
  have AS : Hid (∀ b d : ByteArray, bs b = txt s → bs d = txt t → bs b ≠ bs d ∧ (∀ r, bs d ≠ bs b ++ r) ∧ ∀ r, bs b ≠ bs d ++ r) := fun b d hb hd => by
    have oks : Pk.OkS (bs s) := ⟨by rw [bs_len]; omega, bs_lt s⟩
    have okt : Pk.OkS (bs t) := ⟨by rw [bs_len]; omega, bs_lt t⟩
    refine ⟨fun e => hst ?_, fun r e => hst ?_, fun r e => hst ?_⟩
    · rw [hb, hd] at e
      exact bs_inj _ _ (Pk.wayText.apart oks okt [] (by rw [List.append_nil]; exact e.symm)).1
    · rw [hb, hd] at e
      exact bs_inj _ _ (Pk.wayText.apart oks okt r e).1
    · rw [hb, hd] at e
      exact (bs_inj _ _ (Pk.wayText.apart okt oks r e).1).symm
  have eqs := beq_ne s t (fun e => hst (bs_inj _ _ e))
  have eqs2 := toList_bs s t (fun e => hst (bs_inj _ _ e))
  clear okx oky dx dy hxy hnm hst
  go_enter Try.func8, Try.ntmps8
  go_wp2_with fail
  go_quiet (fail)
  go_wp2_with fail
  with_reducible refine (C1.out _).mono ?_
  rintro e w1 ⟨⟨a, b, rfl, ha, hb⟩, b1⟩
  have B1 := Lib.hid (below_seq (below_drewN (below_alloc w _) _) b1)
  have HA := Lib.hid ha
  have HB := Lib.hid hb
  clear b1 ha hb
  go_wp2_with fail
  with_reducible refine (C2.out _).mono ?_
  rintro e w2 ⟨⟨c, d, rfl, hc, hd⟩, b2⟩
  have B2 := Lib.hid (below_seq B1.out b2)
  have FN := Lib.hid (AN.out a c HA.out hc)
  have FS := Lib.hid (AS.out b d HB.out hd)
  clear b2 hc hd B1 HA HB
  go_wp2_with fail
  with_reducible refine (CI.out _).mono ?_
  rintro e w3 ⟨⟨z, rfl⟩, b3⟩
  have B3 := Lib.hid (below_seq B2.out b3)
  clear b3 B2
  have q1 := toList_bs _ _ FN.out.1
  have q2 := beq_ne _ _ FN.out.1
  have q3 := toList_bs _ _ FS.out.1
  have q4 := beq_ne _ _ FS.out.1
  go_wp2_with fail
  refine (begins_no a c _ FN.out.2.1).mono ?_
  rintro e w' ⟨rfl, rfl⟩
  go_wp2_with fail
  refine (begins_no c a _ FN.out.2.2).mono ?_
  rintro e w' ⟨rfl, rfl⟩
  go_wp2_with fail
  refine (begins_no b d _ FS.out.2.1).mono ?_
  rintro e w' ⟨rfl, rfl⟩
  go_wp2_with fail
  refine (begins_no d b _ FS.out.2.2).mono ?_
  rintro e w' ⟨rfl, rfl⟩
  go_wp2_with fail
  refine (head_any _).mono ?_
  rintro e w4 ⟨rfl, b4⟩
  have B4 := Lib.hid (below_seq B3.out b4)
  clear b4
  go_wp2_with fail
  go_ret
  exact ⟨rfl, B4.out⟩

theorem walk (n m : Nat) (s t : ByteArray) (w : World) (hn : n < 18446744073709551616) (hm : m < 18446744073709551616) :
    Calls Try.prog F (Args n m s t) w fun e w' => e = .returned (.bool true) ∧ Below w.heap.size w w' := by
  by_cases hs : s.size ≤ 300
  · by_cases ht : t.size ≤ 300
    · by_cases hnm : n = m
      · by_cases hst : s = t
        · exact walk_eq_eq n m s t w hn hm hs ht hnm hst
        · exact walk_eq_ne n m s t w hn hm hs ht hnm hst
      · by_cases hst : s = t
        · exact walk_ne_eq n m s t w hn hm hs ht hnm hst
        · exact walk_ne_ne n m s t w hn hm hs ht hnm hst
    · exact walk_long n m s t w (.inr (by omega))
  · exact walk_long n m s t w (.inl (by omega))
end Go.Proofs.Ytbfdfaadioaldaa.packApart
