/- Contracts of package pack: NewReader, (*Reader).is, Fine, Left, End, fail, Num, Int, Truth, count, Text. Conditions: the pointer is a reader's, which has at most 1000000000 bytes left. -/
import Derived.Test.YtfhceblmjahgjaaPkR1
namespace Go.Proofs.Ytfhceblmjahgjaa
open Go.ChangeShapes Go.WideShapes Go.ChangeAt Go.RowKit

/-- the address of a block -/
abbrev ptr (p : Nat) : Value := .pointer (some ⟨p, 0, none⟩)

set_option maxRecDepth 100000 in
theorem newReader_any (b : ByteArray) (w : World) :
    Calls Try.prog 15 #[.string b] w fun e w' => e = .returned (ptr w.heap.size) ∧ w' = w.alloc (.cells #[.bool true, .bool true, .string b] 56) := by
  go_enter Try.func15, Try.ntmps15
  go_wp2
  go_ret
  exact ⟨rfl, rfl⟩

theorem Rd.new (b : ByteArray) (w : World) : Rd (w.alloc (.cells #[.bool true, .bool true, .string b] 56)) w.heap.size (some (bs b)) b := ⟨Blk.new _ _ _, rfl⟩

/-- a reader, whatever its text is -/
def Rdx (w : World) (p : Nat) (q : Pk.Left) : Prop := ∃ s, Rd w p q s ∧ s.size ≤ 1000000000
/-- block p alone may have changed -/
abbrev At (p : Nat) : Nat → Prop := fun k => k = p

theorem Rdx.keep {S : Nat → Prop} {w w' : World} {p : Nat} {q : Pk.Left} (h : Rdx w p q) (m : Mod S w w') (hS : ¬ S p) : Rdx w' p q := by
  obtain ⟨s, hs, hl⟩ := h
  exact ⟨s, hs.keep m hS, hl⟩
theorem Rdx.below {w w' : World} {p : Nat} {q : Pk.Left} (h : Rdx w p q) (b : Below w.heap.size w w') : Rdx w' p q := h.keep (S := fun _ => False) (Mod.of_below b) (fun h => h)
theorem Rdx.lt {w : World} {p : Nat} {q : Pk.Left} (h : Rdx w p q) : p < w.heap.size := by
  obtain ⟨s, hs, _⟩ := h
  exact hs.blk.lt

theorem mod_at {p : Nat} {a w : World} (m : Mod (At p) a w) (i : Nat) (u : Value) : Mod (At p) a (w.setCell ⟨p, i, none⟩ u) := m.setCell (p := ⟨p, i, none⟩) (.inl rfl) u

/-- what a reading call ends in -/
def RPost (w : World) (p : Nat) (q : Pk.Left) (v : Value) (e : Ending) (w' : World) : Prop := e = .returned v ∧ Rdx w' p q ∧ Mod (At p) w w'

set_option maxRecDepth 100000 in
theorem ris_yes (p : Nat) (q : Pk.Left) (s : ByteArray) (w : World) (h : Rd w p q s) :
    Calls Try.prog 56 #[ptr p] w fun e w' => e = .returned (.bool true) ∧ w = w' := by
  have hc : w.cell? ⟨p, 0, none⟩ = some (.bool true) := h.blk.cell 0
  go_enter Try.func56, Try.ntmps56
  go_wp2
  go_ret
  exact ⟨rfl, rfl⟩

set_option maxRecDepth 100000 in
theorem rfine_any (p : Nat) (q : Pk.Left) (s : ByteArray) (w : World) (h : Rd w p q s) :
    Calls Try.prog 18 #[ptr p] w fun e w' => e = .returned (.bool q.isSome) ∧ w = w' := by
  have C := Lib.hid (ris_yes p q s w h)
  have hc : w.cell? ⟨p, 1, none⟩ = some (.bool q.isSome) := h.blk.cell 1
  clear h
  generalize q.isSome = b at *
  go_enter Try.func18, Try.ntmps18
  go_wp2_with fail
  refine C.out.mono ?_
  rintro e w' ⟨rfl, rfl⟩
  go_wp2_with fail
  go_ret
  exact ⟨rfl, rfl⟩

set_option maxRecDepth 100000 in
theorem rleft_any (p : Nat) (q : Pk.Left) (s : ByteArray) (w : World) (h : Rd w p q s) :
    Calls Try.prog 20 #[ptr p] w fun e w' => e = .returned (.int .i64 s.size) ∧ w = w' := by
  have C := Lib.hid (ris_yes p q s w h)
  have hc : w.cell? ⟨p, 2, none⟩ = some (.string s) := h.blk.cell 2
  clear h
  go_enter Try.func20, Try.ntmps20
  go_wp2_with fail
  refine C.out.mono ?_
  rintro e w' ⟨rfl, rfl⟩
  go_wp2_with fail
  go_ret
  exact ⟨rfl, rfl⟩

/-- what End answers -/
def endOf : Pk.Left → Int
  | some [] => 0
  | _ => 5

set_option maxRecDepth 100000 in
theorem rend_any (p : Nat) (q : Pk.Left) (s : ByteArray) (w : World) (h : Rd w p q s) :
    Calls Try.prog 19 #[ptr p] w fun e w' => e = .returned (.int .i64 (endOf q)) ∧ w = w' := by
  have C := Lib.hid (ris_yes p q s w h)
  have hc1 : w.cell? ⟨p, 1, none⟩ = some (.bool q.isSome) := h.blk.cell 1
  have hc : w.cell? ⟨p, 2, none⟩ = some (.string s) := h.blk.cell 2
  have hl := h.left
  clear h
  cases q with
  | none =>
    have e : endOf none = 5 := rfl
    rw [e]
    go_enter Try.func19, Try.ntmps19
    go_wp2_with fail
    refine C.out.mono ?_
    rintro e w' ⟨rfl, rfl⟩
    go_wp2_with fail
    go_ret
    exact ⟨rfl, rfl⟩
  | some l =>
    have hl2 : bs s = l := hl
    clear hl
    rcases Nat.eq_zero_or_pos s.size with h0 | h0
    · obtain rfl := bs_nil s h0
      have e : endOf (some l) = 0 := by rw [← hl2]; rfl
      rw [e]
      clear h0 e hl2
      go_enter Try.func19, Try.ntmps19
      go_wp2_with fail
      refine C.out.mono ?_
      rintro e w' ⟨rfl, rfl⟩
      go_wp2_with fail
      go_ret
      exact ⟨rfl, rfl⟩
    · have hne := toList_ne s h0
      have e : endOf (some l) = 5 := by
        cases l with
        | nil => have := bs_len s; rw [hl2] at this; simp at this; omega
        | cons a r => rfl
      rw [e]
      clear e hl2
      go_enter Try.func19, Try.ntmps19
      go_wp2_with fail
      refine C.out.mono ?_
      rintro e w' ⟨rfl, rfl⟩
      go_wp2_with fail
      go_ret
      exact ⟨rfl, rfl⟩

set_option maxRecDepth 100000 in
theorem rfail_any (p : Nat) (q : Pk.Left) (s : ByteArray) (w : World) (h : Rd w p q s) :
    Calls Try.prog 57 #[ptr p] w (RPost w p none (.tuple #[])) := by
  have hc1 : w.cell? ⟨p, 1, none⟩ = some (.bool q.isSome) := h.blk.cell 1
  have hc2 : w.cell? ⟨p, 2, none⟩ = some (.string s) := h.blk.cell 2
  have hf1 := h.blk.frozen 1
  have hf2 := h.blk.frozen 2
  have H := Lib.hid h
  clear h
  go_enter Try.func57, Try.ntmps57
  go_wp2_with fail
  go_end0
  refine ⟨rfl, ⟨ByteArray.empty, ⟨(H.out.blk.set_ 1 _).set_ 2 _, rfl⟩, by decide⟩, ?_⟩
  exact mod_at (mod_at (Mod.refl _ _) 1 _) 2 _

set_option maxRecDepth 100000 in
set_option maxHeartbeats 1000000 in
theorem rnum_any (p : Nat) (q : Pk.Left) (w : World) (h : Rdx w p q) :
    Calls Try.prog 27 #[ptr p] w (RPost w p (Pk.rNum q).2 (.int .u64 ((Pk.rNum q).1 : Nat))) := by
  have HX := Lib.hid h
  obtain ⟨s, h, hs⟩ := h
  have C1 := Lib.hid (rfine_any p q s w h)
  have hc2 : w.cell? ⟨p, 2, none⟩ = some (.string s) := h.blk.cell 2
  have H := Lib.hid h
  have hl := h.left
  clear h
  cases q with
  | none =>
    have e : Pk.rNum none = (0, none) := rfl
    rw [e]
    go_enter Try.func27, Try.ntmps27
    go_wp2_with fail
    refine C1.out.mono ?_
    rintro e w' ⟨rfl, rfl⟩
    go_wp2_with fail
    go_ret
    exact ⟨rfl, HX.out, Mod.refl _ _⟩
  | some l =>
    have hl2 : bs s = l := hl
    subst hl2
    clear hl
    have C2 := Lib.hid (number_any s w (by omega))
    have er := Pk.rNum_numOf (bs s)
    have hb := Pk.numOf_lt (bs s) (bs_lt s)
    rw [bs_len] at hb
    generalize Pk.numOf (bs s) = r at *
    obtain ⟨n, z⟩ := r
    simp only at er hb C2
    by_cases hz : z = 0
    · subst hz
      rw [if_pos rfl] at er
      rw [er]
      have C3 := Lib.hid (rfail_any p _ s w H.out)
      clear er
      go_enter Try.func27, Try.ntmps27
      go_wp2_with fail
      refine C1.out.mono ?_
      rintro e w' ⟨rfl, rfl⟩
      go_wp2_with fail
      refine C2.out.mono ?_
      rintro e w' ⟨rfl, rfl⟩
      go_wp2_with fail
      refine C3.out.mono ?_
      rintro e w' ⟨rfl, hx, hm⟩
      go_wp2_with fail
      go_ret
      exact ⟨rfl, hx, hm⟩
    · rw [if_neg hz] at er
      rw [er]
      have hzz : ((z : Int) == 0) = false := by simp; omega
      have hf2 := H.out.blk.frozen 2
      have HE : Hid (bs (s.extract z s.size) = (bs s).drop z) := by
        show _ = _
        rw [bs_extract, List.take_of_length_le]
        rw [List.length_drop, bs_len]
        omega
      have HS : Hid ((s.extract z s.size).size ≤ 1000000000) := by
        show _ ≤ _
        rw [← bs_len, HE.out, List.length_drop, bs_len]
        omega
      clear er
      go_enter Try.func27, Try.ntmps27
      go_wp2_with fail
      refine C1.out.mono ?_
      rintro e w' ⟨rfl, rfl⟩
      go_wp2_with fail
      refine C2.out.mono ?_
      rintro e w' ⟨rfl, rfl⟩
      go_wp2_with fail
      go_ret
      exact ⟨rfl, ⟨_, ⟨H.out.blk.set_ 2 _, HE.out⟩, HS.out⟩, mod_at (Mod.refl _ _) 2 _⟩
end Go.Proofs.Ytfhceblmjahgjaa
