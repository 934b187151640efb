/- Contracts of the law PackApart's own helpers: one, ints, begins. -/
import Derived.Test.YtbfdfaadioaldaaPkHead
namespace Go.Proofs.Ytbfdfaadioaldaa
open Go.ChangeShapes Go.WideShapes Go.ChangeAt Go.RowKit

theorem toList_bs (a b : ByteArray) (h : bs a ≠ bs b) : ¬ a.toList = b.toList := fun e => h (by unfold bs; rw [← ByteArray.toList_eq, ← ByteArray.toList_eq, e])
theorem beq_ne (a b : ByteArray) (h : bs a ≠ bs b) : (a.toList == b.toList) = false := by simpa using toList_bs a b h

/-- two writers that do not touch each other -/
theorem two_keep {w w' : World} {p q : Nat} {u u' v : Value} {xs ys : List Nat} (hq : Wr w q v ys) (h : Wrote w p u xs w' u') (hd : ∀ k, fp p u k → ¬ fp q v k) : Wr w' q v ys ∧ ∀ k, fp p u' k → ¬ fp q v k := by
  refine ⟨hq.keep h.mod (fun k hk hk2 => hd k hk2 hk), fun k hk hk2 => ?_⟩
  rcases h.new k hk with h1 | h1
  · exact hd k h1 hk2
  · have := (hq.fp_lt k hk2).2
    omega

set_option maxRecDepth 100000 in
set_option maxHeartbeats 2000000 in
theorem one_any (n : Nat) (s : ByteArray) (w : World) (hn : n < 18446744073709551616) (hs : s.size ≤ 1000000000) :
    Calls Try.prog 28 #[.int .u64 n, .string s] w fun e w' => (∃ a b, e = .returned (.tuple #[.string a, .string b]) ∧ bs a = Pk.num n ∧ bs b = txt s) ∧ Below w.heap.size w w' := by
  have htx : ∀ b ∈ txt s, b < 256 := fun b hb => by
    refine Pk.text_lt (bs s) ⟨?_, bs_lt s⟩ b hb
    rw [bs_len]
    omega
  have HTX := Lib.hid htx
  have HNX := Lib.hid (Pk.num_lt n hn)
  clear htx
  go_enter Try.func28, Try.ntmps28
  go_wp2_with fail
  refine (newWriter_any _).mono ?_
  rintro e w1 ⟨rfl, rfl⟩
  go_wp2_with fail
  refine (newWriter_any _).mono ?_
  rintro e w2 ⟨rfl, hw2⟩
  obtain ⟨p, hp⟩ : ∃ p, w.heap.size = p := ⟨_, rfl⟩
  have hq : (w.alloc (.cells #[.bool true, .slice none 0 0] 53)).heap.size = p + 1 := by simp [hp]
  have H1 : Hid (Wr w2 p (.slice none 0 0) []) := by rw [← hp, hw2]; exact (Wr.new w).alloc _
  have H2 : Hid (Wr w2 (p + 1) (.slice none 0 0) []) := by
    have := Wr.new (w.alloc (.cells #[.bool true, .slice none 0 0] 53))
    rw [hq] at this
    rw [hw2]
    exact this
  have B2 : Hid (Below p w w2) := by rw [← hp, hw2]; exact below_seq (below_alloc _ _) (below_alloc _ _)
  have HP := Lib.hid hp
  rw [hq, hp]
  clear hw2 hq hp
  go_wp2_with fail
  refine (wnum_any p _ [] n w2 H1.out hn (by simp)).mono ?_
  rintro e w3 ⟨rfl, v3, hw⟩
  obtain ⟨k2, d2⟩ := two_keep H2.out hw (fun k hk hk2 => by
    rcases hk with rfl | hk
    · rcases hk2 with hk2 | hk2
      · omega
      · simp [Value.ownBlock] at hk2
    · simp [Value.ownBlock] at hk)
  have B3 : Hid (Below p w w3) := B2.out.trans (hw.low H1.out (Nat.le_refl _))
  have H3 := Lib.hid hw.wr
  have H4 := Lib.hid k2
  have D := Lib.hid d2
  clear hw k2 d2 H1 H2 B2
  go_wp2_with fail
  refine (wtext_any (p + 1) _ [] s w3 H4.out (by simp; omega)).mono ?_
  rintro e w4 ⟨rfl, v4, hw⟩
  obtain ⟨k3, _⟩ := two_keep H3.out hw (fun k hk hk2 => D.out k hk2 hk)
  have B4 : Hid (Below p w w4) := B3.out.trans (hw.low H4.out (by omega))
  have H5 := Lib.hid hw.wr
  have H6 := Lib.hid k3
  clear hw k3 H3 H4 B3 D
  go_wp2_with fail
  refine (wbytes_any p v3 _ w4 H6.out (by rw [List.nil_append]; exact HNX.out)).mono ?_
  rintro e w' ⟨⟨a, rfl, ha⟩, rfl⟩
  have HA := Lib.hid ha
  clear ha
  go_wp2_with fail
  refine (wbytes_any (p + 1) v4 _ w4 H5.out (by rw [List.nil_append]; exact HTX.out)).mono ?_
  rintro e w' ⟨⟨b, rfl, hb⟩, rfl⟩
  have HB := Lib.hid hb
  clear hb
  go_wp2_with fail
  go_ret2
  refine ⟨⟨a, b, rfl, ?_, ?_⟩, ?_⟩
  · exact HA.out
  · exact HB.out
  · rw [HP.out]; exact B4.out

/-- whether integers are told apart -/
def IPost (w : World) (b : Bool) (e : Ending) (w' : World) : Prop := (∃ y, e = .returned (.tuple #[.bool b, .int .i64 y])) ∧ Below w.heap.size w w'

set_option maxRecDepth 100000 in
set_option maxHeartbeats 2000000 in
theorem ints_any (x y : Int) (w : World) (hx : Pk.OkI x) (hy : Pk.OkI y) (bb : Bool) (hbb : decide (x = y) = bb) :
    Calls Try.prog 29 #[.int .i64 x, .int .i64 y] w (IPost w bb) := by
  have HX := Lib.hid (And.intro hx (Pk.int_lt x hx))
  have HY := Lib.hid (And.intro hy (Pk.int_lt y hy))
  have HLX := Lib.hid (Pk.num_len (Pk.zig x) (Pk.zig_lt x hx.1 hx.2)).2
  have HLY := Lib.hid (Pk.num_len (Pk.zig y) (Pk.zig_lt y hy.1 hy.2)).2
  have heq : ∀ a b : ByteArray, bs a = Pk.int x → bs b = Pk.int y → (a.toList == b.toList) = bb := fun a b ha hb => by
    cases bb
    · have hne : x ≠ y := by simpa using hbb
      refine beq_ne a b (fun e => hne ?_)
      rw [ha, hb] at e
      exact (Pk.wayInt.apart hx hy [] (by rw [List.append_nil]; exact e.symm)).1
    · have : x = y := by simpa using hbb
      subst this
      have : a = b := bs_inj a b (ha.trans hb.symm)
      subst this
      simp
  have HEQ := Lib.hid heq
  clear heq hbb hx hy
  go_enter Try.func29, Try.ntmps29
  go_wp2_with fail
  refine (newWriter_any _).mono ?_
  rintro e w1 ⟨rfl, rfl⟩
  go_wp2_with fail
  refine (newWriter_any _).mono ?_
  rintro e w2 ⟨rfl, hw2⟩
  obtain ⟨p, hp⟩ : ∃ p, w.heap.size = p := ⟨_, rfl⟩
  have hq : (w.alloc (.cells #[.bool true, .slice none 0 0] 53)).heap.size = p + 1 := by simp [hp]
  have H1 : Hid (Wr w2 p (.slice none 0 0) []) := by rw [← hp, hw2]; exact (Wr.new w).alloc _
  have H2 : Hid (Wr w2 (p + 1) (.slice none 0 0) []) := by
    have := Wr.new (w.alloc (.cells #[.bool true, .slice none 0 0] 53))
    rw [hq] at this
    rw [hw2]
    exact this
  have B2 : Hid (Below p w w2) := by rw [← hp, hw2]; exact below_seq (below_alloc _ _) (below_alloc _ _)
  have HP := Lib.hid hp
  rw [hq, hp]
  clear hw2 hq hp
  go_wp2_with fail
  refine (wint_any p _ [] x w2 H1.out HX.out.1 (by simp)).mono ?_
  rintro e w3 ⟨rfl, v3, hw⟩
  obtain ⟨k2, d2⟩ := two_keep H2.out hw (fun k hk hk2 => by
    rcases hk with rfl | hk
    · rcases hk2 with hk2 | hk2
      · omega
      · simp [Value.ownBlock] at hk2
    · simp [Value.ownBlock] at hk)
  have B3 : Hid (Below p w w3) := B2.out.trans (hw.low H1.out (Nat.le_refl _))
  have H3 := Lib.hid hw.wr
  have H4 := Lib.hid k2
  have D := Lib.hid d2
  clear hw k2 d2 H1 H2 B2
  go_wp2_with fail
  refine (wint_any (p + 1) _ [] y w3 H4.out HY.out.1 (by simp)).mono ?_
  rintro e w4 ⟨rfl, v4, hw⟩
  obtain ⟨k3, _⟩ := two_keep H3.out hw (fun k hk hk2 => D.out k hk2 hk)
  have B4 : Hid (Below p w w4) := B3.out.trans (hw.low H4.out (by omega))
  have H5 := Lib.hid hw.wr
  have H6 := Lib.hid k3
  clear hw k3 H3 H4 B3 D
  have CA := Lib.hid (wbytes_any p v3 _ w4 H6.out (by rw [List.nil_append]; exact HX.out.2))
  have CB := Lib.hid (wbytes_any (p + 1) v4 _ w4 H5.out (by rw [List.nil_append]; exact HY.out.2))
  go_wp2_with fail
  refine CA.out.mono ?_
  rintro e w' ⟨⟨a, rfl, ha⟩, rfl⟩
  have HA := Lib.hid ha
  clear ha
  go_wp2_with fail
  refine CB.out.mono ?_
  rintro e w' ⟨⟨b, rfl, hb⟩, rfl⟩
  have HB := Lib.hid hb
  clear hb
  have hq := HEQ.out a b HA.out HB.out
  go_wp2_with fail
  refine CA.out.mono ?_
  rintro e w' ⟨⟨a2, rfl, ha2⟩, rfl⟩
  have ha2s : a2.size ≤ 9 := by rw [← bs_len, ha2]; exact HLX.out
  clear ha2
  go_wp2_with fail
  refine CB.out.mono ?_
  rintro e w' ⟨⟨b2, rfl, hb2⟩, rfl⟩
  have hb2s : b2.size ≤ 9 := by rw [← bs_len, hb2]; exact HLY.out
  clear hb2
  go_wp2_with fail
  go_ret2
  refine ⟨⟨_, rfl⟩, ?_⟩
  rw [HP.out]
  exact B4.out

set_option maxRecDepth 100000 in
set_option maxHeartbeats 1000000 in
theorem begins_no (s t : ByteArray) (w : World) (h : ∀ r, bs t ≠ bs s ++ r) :
    Calls Try.prog 30 #[.string s, .string t] w fun e w' => e = .returned (.bool false) ∧ w = w' := by
  by_cases hle : s.size ≤ t.size
  · have hne : bs (t.extract 0 s.size) ≠ bs s := by
      intro e
      rw [bs_extract, List.drop_zero, Nat.sub_zero] at e
      refine h ((bs t).drop s.size) ?_
      rw [← e, List.take_append_drop]
    have e1 := toList_bs _ _ hne
    have e2 := beq_ne _ _ hne
    have hz : (s.size : Int) ≤ (t.size : Int) := by omega
    clear h hne
    go_enter Try.func30, Try.ntmps30
    go_wp2_with fail
    go_ret
    exact ⟨rfl, rfl⟩
  · have hz : ¬ (s.size : Int) ≤ (t.size : Int) := by omega
    clear h
    go_enter Try.func30, Try.ntmps30
    go_wp2_with fail
    go_ret
    exact ⟨rfl, rfl⟩
end Go.Proofs.Ytbfdfaadioaldaa
