/- Contracts of package pack: (*Reader).Int, Truth, count, Text. Conditions: the pointer is a reader's, which has at most 1000000000 bytes left. -/
import Derived.Test.YtfhceblmjahgjaaPkR2
import Derived.Test.YtfhceblmjahgjaaPkW3
namespace Go.Proofs.Ytfhceblmjahgjaa
open Go.ChangeShapes Go.WideShapes Go.ChangeAt Go.RowKit

/-- how many things come next -/
def Pk.rCount (q : Pk.Left) : Nat × Pk.Left := match (Pk.rNum q).2 with
  | none => (0, none)
  | some t => if t.length < (Pk.rNum q).1 then (0, none) else ((Pk.rNum q).1, some t)

theorem Pk.rNum_bad (q : Pk.Left) (h : (Pk.rNum q).2 = none) : (Pk.rNum q).1 = 0 := by
  cases q with
  | none => rfl
  | some l => exact Pk.wayNum.bad l h

theorem Rdx.len {w : World} {p : Nat} {l : List Nat} (h : Rdx w p (some l)) : l.length ≤ 1000000000 ∧ ∀ b ∈ l, b < 256 := by
  obtain ⟨s, hs, hl⟩ := h
  have : bs s = l := hs.left
  rw [← this, bs_len]
  exact ⟨hl, bs_lt s⟩

theorem Rdx.num_lt {w : World} {p : Nat} {q : Pk.Left} (h : Rdx w p q) : (Pk.rNum q).1 < 18446744073709551616 := by
  cases q with
  | none => decide
  | some l =>
    cases hq : (Pk.rNum (some l)).2 with
    | none => rw [Pk.wayNum.bad l hq]; decide
    | some t => exact (Pk.wayNum.same l _ t h.len.2 (by rw [← hq])).2

set_option maxRecDepth 100000 in
set_option maxHeartbeats 1000000 in
theorem rint_any (p : Nat) (q : Pk.Left) (w : World) (h : Rdx w p q) :
    Calls Try.prog 21 #[ptr p] w (RPost w p (Pk.rInt q).2 (.int .i64 (Pk.rInt q).1)) := by
  have C := Lib.hid (rnum_any p q w h)
  have hn := h.num_lt
  have e : Pk.rInt q = (Pk.zag (Pk.rNum q).1, (Pk.rNum q).2) := rfl
  rw [e]
  generalize Pk.rNum q = r at *
  obtain ⟨n, t⟩ := r
  simp only at hn C ⊢
  clear h e
  obtain ⟨z, hz⟩ : ∃ z, Pk.zag n = z := ⟨_, rfl⟩
  rw [hz]
  unfold Pk.zag at hz
  obtain ⟨m, hm⟩ : ∃ m, n / 2 = m := ⟨_, rfl⟩
  rw [hm] at hz
  have e1 : (n : Int) / 2 = (m : Int) := by omega
  by_cases h2 : n % 2 = 1
  · rw [if_pos h2] at hz
    have hb := not64 m (by omega) (by omega)
    have e2 : -(m : Int) - 1 = z := hz
    rw [e2] at hb
    have e3 : (n : Int) % 2 = 1 := by omega
    clear hz e2 hm h2
    go_enter Try.func21, Try.ntmps21
    go_wp2_with fail
    refine C.out.mono ?_
    rintro e w' ⟨rfl, hx⟩
    go_wp2_with fail
    go_ret
    exact ⟨rfl, hx⟩
  · rw [if_neg h2] at hz
    have e3 : (n : Int) % 2 = 0 := by omega
    obtain rfl : z = (m : Int) := by omega
    clear hz hm h2
    go_enter Try.func21, Try.ntmps21
    go_wp2_with fail
    refine C.out.mono ?_
    rintro e w' ⟨rfl, hx⟩
    go_wp2_with fail
    go_ret
    exact ⟨rfl, hx⟩

set_option maxRecDepth 100000 in
set_option maxHeartbeats 1000000 in
theorem rtruth_any (p : Nat) (q : Pk.Left) (w : World) (h : Rdx w p q) :
    Calls Try.prog 22 #[ptr p] w (RPost w p (Pk.rTruth q).2 (.bool (Pk.rTruth q).1)) := by
  have C := Lib.hid (rnum_any p q w h)
  have hn := h.num_lt
  have e : Pk.rTruth q = if 1 < (Pk.rNum q).1 then (false, none) else ((Pk.rNum q).1 == 1, (Pk.rNum q).2) := rfl
  rw [e]
  generalize Pk.rNum q = r at *
  obtain ⟨n, t⟩ := r
  simp only at hn C ⊢
  clear h e
  by_cases h1 : 1 < n
  · rw [if_pos h1]
    have hz : ((n : Int) == 1) = false := by simp; omega
    go_enter Try.func22, Try.ntmps22
    go_wp2_with fail
    refine C.out.mono ?_
    rintro e w1 ⟨rfl, hx, hm⟩
    obtain ⟨s1, hr1, _⟩ := hx
    have C2 := Lib.hid (rfail_any p _ s1 w1 hr1)
    have HM := Lib.hid hm
    clear hm hr1
    go_wp2_with fail
    refine C2.out.mono ?_
    rintro e w2 ⟨rfl, hx2, hm2⟩
    go_wp2_with fail
    go_ret
    exact ⟨rfl, hx2, HM.out.trans hm2⟩
  · rw [if_neg h1]
    have hz : ((n : Int) == 1) = (n == 1) := by
      rw [Bool.eq_iff_iff]
      simp
      omega
    generalize (n == 1) = b at *
    go_enter Try.func22, Try.ntmps22
    go_wp2_with fail
    refine C.out.mono ?_
    rintro e w1 ⟨rfl, hx⟩
    go_wp2_with fail
    go_ret
    exact ⟨rfl, hx⟩

set_option maxRecDepth 100000 in
set_option maxHeartbeats 1000000 in
theorem rcount_any (p : Nat) (q : Pk.Left) (w : World) (h : Rdx w p q) :
    Calls Try.prog 58 #[ptr p] w (RPost w p (Pk.rCount q).2 (.int .i64 ((Pk.rCount q).1 : Nat))) := by
  have C := Lib.hid (rnum_any p q w h)
  have hn := h.num_lt
  have e : Pk.rCount q = match (Pk.rNum q).2 with | none => (0, none) | some t => if t.length < (Pk.rNum q).1 then (0, none) else ((Pk.rNum q).1, some t) := rfl
  have hbad := Pk.rNum_bad q
  rw [e]
  generalize Pk.rNum q = r at *
  obtain ⟨n, t⟩ := r
  simp only at hn C hbad ⊢
  clear h e
  have HB := Lib.hid hbad
  clear hbad
  cases t with
  | none =>
    have hn0 := HB.out rfl
    subst hn0
    go_enter Try.func58, Try.ntmps58
    go_wp2_with fail
    refine C.out.mono ?_
    rintro e w1 ⟨rfl, hx, hm⟩
    have HX := Lib.hid hx
    obtain ⟨s1, hr1, hs1⟩ := hx
    have C2 := Lib.hid (rleft_any p _ s1 w1 hr1)
    have C3 := Lib.hid (rfail_any p _ s1 w1 hr1)
    have HM := Lib.hid hm
    have HR := Lib.hid hr1
    clear hm hr1
    have es : s1 = ByteArray.empty := HR.out.left
    subst es
    go_wp2_with fail
    refine C2.out.mono ?_
    rintro e w' ⟨rfl, rfl⟩
    go_wp2_with fail
    go_ret
    exact ⟨rfl, HX.out, HM.out⟩
  | some t =>
    simp only
    by_cases hlt : t.length < n
    · rw [if_pos hlt]
      have HLT := Lib.hid hlt
      clear hlt
      go_enter Try.func58, Try.ntmps58
      go_wp2_with fail
      refine C.out.mono ?_
      rintro e w1 ⟨rfl, hx, hm⟩
      have HX := Lib.hid hx
      obtain ⟨s1, hr1, hs1⟩ := hx
      have C2 := Lib.hid (rleft_any p _ s1 w1 hr1)
      have C3 := Lib.hid (rfail_any p _ s1 w1 hr1)
      have HM := Lib.hid hm
      have HR := Lib.hid hr1
      clear hm hr1
      have hlt : s1.size < n := by
        have : bs s1 = t := HR.out.left
        have h2 := HLT.out
        rwa [← this, bs_len] at h2
      have hz : (s1.size : Int) < (n : Int) := by omega
      go_wp2_with fail
      refine C2.out.mono ?_
      rintro e w' ⟨rfl, rfl⟩
      go_wp2_with fail
      refine C3.out.mono ?_
      rintro e w2 ⟨rfl, hx2, hm2⟩
      go_wp2_with fail
      go_ret
      exact ⟨rfl, hx2, HM.out.trans hm2⟩
    · rw [if_neg hlt]
      have HLT := Lib.hid hlt
      clear hlt
      go_enter Try.func58, Try.ntmps58
      go_wp2_with fail
      refine C.out.mono ?_
      rintro e w1 ⟨rfl, hx, hm⟩
      have HX := Lib.hid hx
      obtain ⟨s1, hr1, hs1⟩ := hx
      have C2 := Lib.hid (rleft_any p _ s1 w1 hr1)
      have C3 := Lib.hid (rfail_any p _ s1 w1 hr1)
      have HM := Lib.hid hm
      have HR := Lib.hid hr1
      clear hm hr1
      have hlt : ¬ s1.size < n := by
        have : bs s1 = t := HR.out.left
        have h2 := HLT.out
        rwa [← this, bs_len] at h2
      have hz : ¬ (s1.size : Int) < (n : Int) := by omega
      go_wp2_with fail
      refine C2.out.mono ?_
      rintro e w' ⟨rfl, rfl⟩
      go_wp2_with fail
      go_ret
      exact ⟨rfl, HX.out, HM.out⟩

/-- a string that has these bytes is returned -/
def SPost (w : World) (p : Nat) (q : Pk.Left) (l : List Nat) (e : Ending) (w' : World) : Prop := (∃ s, e = .returned (.string s) ∧ bs s = l ∧ s.size ≤ 1000000000) ∧ Rdx w' p q ∧ Mod (At p) w w'

theorem rText_count (q : Pk.Left) : Pk.rText q = match (Pk.rCount q).2 with | none => ([], none) | some t => (t.take (Pk.rCount q).1, some (t.drop (Pk.rCount q).1)) := by
  unfold Pk.rText Pk.rCount
  cases (Pk.rNum q).2 with
  | none => rfl
  | some t =>
    simp only
    by_cases h : t.length < (Pk.rNum q).1
    · simp [if_pos h]
    · simp [if_neg h]

theorem rCount_le (q : Pk.Left) : match (Pk.rCount q).2 with | none => (Pk.rCount q).1 = 0 | some t => (Pk.rCount q).1 ≤ t.length := by
  unfold Pk.rCount
  cases (Pk.rNum q).2 with
  | none => rfl
  | some t =>
    simp only
    by_cases h : t.length < (Pk.rNum q).1
    · rw [if_pos h]
    · rw [if_neg h]
      simp only
      omega

set_option maxRecDepth 100000 in
set_option maxHeartbeats 1000000 in
theorem rtext_any (p : Nat) (q : Pk.Left) (w : World) (h : Rdx w p q) :
    Calls Try.prog 23 #[ptr p] w (SPost w p (Pk.rText q).2 (Pk.rText q).1) := by
  have C := Lib.hid (rcount_any p q w h)
  have hle := rCount_le q
  rw [rText_count]
  generalize Pk.rCount q = r at *
  obtain ⟨n, t⟩ := r
  simp only at hle C ⊢
  clear h
  have HB := Lib.hid hle
  clear hle
  cases t with
  | none =>
    have hn0 : n = 0 := HB.out
    subst hn0
    go_enter Try.func23, Try.ntmps23
    go_wp2_with fail
    refine C.out.mono ?_
    rintro e w1 ⟨rfl, hx, hm⟩
    have HX := Lib.hid hx
    have HM := Lib.hid hm
    clear hx hm
    go_wp2_with fail
    go_ret
    exact ⟨⟨_, rfl, rfl, by decide⟩, HX.out, HM.out⟩
  | some t =>
    by_cases hn : n = 0
    · subst hn
      simp only [List.take_zero, List.drop_zero]
      go_enter Try.func23, Try.ntmps23
      go_wp2_with fail
      refine C.out.mono ?_
      rintro e w1 ⟨rfl, hx, hm⟩
      have HX := Lib.hid hx
      have HM := Lib.hid hm
      clear hx hm
      go_wp2_with fail
      go_ret
      exact ⟨⟨_, rfl, rfl, by decide⟩, HX.out, HM.out⟩
    · simp only
      generalize hT : t.take n = T1
      generalize hD : t.drop n = D1
      have HT := Lib.hid hT
      have HD := Lib.hid hD
      clear hT hD
      go_enter Try.func23, Try.ntmps23
      go_wp2_with fail
      refine C.out.mono ?_
      rintro e w1 ⟨rfl, hx, hm⟩
      have HX := Lib.hid hx
      have HM := Lib.hid hm
      obtain ⟨s1, hr1, hs1⟩ := hx
      have hl : bs s1 = t := hr1.left
      subst hl
      have hle : n ≤ s1.size := by have := HB.out; simp only [bs_len] at this; exact this
      have hc2 : w1.cell? ⟨p, 2, none⟩ = some (.string s1) := hr1.blk.cell 2
      have hf2 := hr1.blk.frozen 2
      have HR := Lib.hid hr1
      have hz : ((n : Int) == 0) = false := by simp; omega
      have HE : Hid (bs (s1.extract n s1.size) = (bs s1).drop n) := by
        show _ = _
        rw [bs_extract, List.take_of_length_le]
        rw [List.length_drop, bs_len]
        omega
      have HS : Hid ((s1.extract n s1.size).size ≤ 1000000000) := by
        show _ ≤ _
        rw [← bs_len, HE.out, List.length_drop, bs_len]
        omega
      have HE2 : Hid (bs (s1.extract 0 n) = (bs s1).take n) := by
        show _ = _
        rw [bs_extract, List.drop_zero, Nat.sub_zero]
      have HS2 : Hid ((s1.extract 0 n).size ≤ 1000000000) := by
        show _ ≤ _
        rw [← bs_len, HE2.out, List.length_take, bs_len]
        omega
      clear hm hr1
      go_wp2_with fail
      go_ret
      exact ⟨⟨_, rfl, HE2.out.trans HT.out, HS2.out⟩, ⟨_, ⟨HR.out.blk.set_ 2 _, HE.out.trans HD.out⟩, HS.out⟩, mod_at HM.out 2 _⟩
end Go.Proofs.Ytfhceblmjahgjaa
