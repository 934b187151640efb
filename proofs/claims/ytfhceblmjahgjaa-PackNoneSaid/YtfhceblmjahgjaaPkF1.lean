/- Contracts of the document's answers for layer 3 (package stickfulref03): Num, Int, Truth, Text. Conditions: numbers fit their kinds; the text has at most 1000000000 bytes. -/
import Derived.Test.YtfhceblmjahgjaaPkW4
namespace Go.Proofs.Ytfhceblmjahgjaa
open Go.ChangeShapes Go.WideShapes Go.ChangeAt Go.RowKit

/-- a string with these bytes is returned; nothing that was there has changed -/
def BPost (w : World) (l : List Nat) (e : Ending) (w' : World) : Prop := (∃ s, e = .returned (.string s) ∧ bs s = l) ∧ Below w.heap.size w w'

theorem conv1 (w : World) (b : Nat) (hb : b < 256) : ∃ s, bs s = [b] ∧ (convert 35 9 (.slice (some ⟨w.heap.size, 0, none⟩) 1 1)).run Try.prog (w.alloc (.cells #[.int .u8 (b : Int)] 5)) = .ok (.string s) (w.alloc (.cells #[.int .u8 (b : Int)] 5)) := by
  refine ⟨_, bs_of_nums [b] (by simpa using hb), run_convert_bytes_arg _ _ _ Try.underlying35 Try.underlying5 w.heap.size 0 1 1 _ (by simp) (fun i hi => ?_) _ Try.underlying9⟩
  obtain rfl : i = 0 := by omega
  simp

set_option maxRecDepth 100000 in
set_option maxHeartbeats 1000000 in
theorem fnum_any (n : Nat) (w : World) (h : n < 18446744073709551616) :
    Calls Try.prog 44 #[.int .u64 n] w (BPost w (Pk.num n)) := by
  by_cases hn : n < 248
  · have e : Pk.num n = [n] := by unfold Pk.num; rw [if_pos hn]
    rw [e]
    have hz : (n : Int) < 248 := by omega
    obtain ⟨s, hs, hcv⟩ := conv1 w n (by omega)
    have HS := Lib.hid hs
    clear e hs
    go_enter Try.func44, Try.ntmps44
    go_wp2_with fail
    go_ret
    exact ⟨⟨s, rfl, HS.out⟩, below_alloc _ _⟩
  · have e : Pk.num n = (247 + (Pk.be n).length) :: Pk.be n := by unfold Pk.num; rw [if_neg (by omega)]
    rw [e]
    have hL8 : (Pk.be n).length ≤ 8 := Pk.be_len 8 n (by simpa using h)
    have hz : ¬ (n : Int) < 248 := by omega
    obtain ⟨N, hN⟩ : ∃ N, Pk.be n = N := ⟨_, rfl⟩
    rw [hN] at hL8 ⊢
    have HN := Lib.hid hN
    clear e hN
    go_enter Try.func44, Try.ntmps44
    go_wp2_with fail
    go_loopg [0, 3] N.length (fun g s0 s3 wx => Below w.heap.size w wx ∧ ∃ (m : Nat) (t : ByteArray), s0 = .int .u64 m ∧ s3 = .string t ∧ m < 18446744073709551616 ∧ Hid (N = Pk.be m ++ bs t ∧ g = (Pk.be m).length))
    case atStart =>
      exact ⟨Below.refl _ _, n, ByteArray.empty, rfl, rfl, h, by rw [HN.out]; simp [bs], by rw [HN.out]⟩
    case round =>
      obtain ⟨bel, m, t, rfl, rfl, hm, HR⟩ := hrel
      have htl : t.size ≤ 8 := by
        have := congrArg List.length HR.out.1
        rw [List.length_append, bs_len] at this
        omega
      by_cases h0 : m = 0
      · subst h0
        have hl := HR.out.1
        rw [Pk.be_zero, List.nil_append] at hl
        have hl2 := congrArg List.length hl
        rw [bs_len] at hl2
        obtain ⟨s, hs, hcv⟩ := conv1 wr (247 + t.size) (by omega)
        have hs1 : s.size = 1 := by rw [← bs_len, hs]; rfl
        have hs2 : s.size ≤ 1 := by omega
        have HS := Lib.hid hs
        have HL := Lib.hid hl
        have HL2 := Lib.hid hl2
        have hz1 : (247 : Int) + (t.size : Int) = ((247 + t.size : Nat) : Int) := by omega
        rw [← hz1] at hcv
        clear hs hl hl2 hs1 hz1
        go_wp2_with fail
        go_ret
        refine ⟨⟨_, rfl, ?_⟩, bel.alloc bel.size _⟩
        rw [bs_append, HS.out, HL.out, bs_len]
        rfl
      · obtain ⟨b, hb⟩ : ∃ b, m % 256 = b := ⟨_, rfl⟩
        obtain ⟨m2, hm2⟩ : ∃ m2, m / 256 = m2 := ⟨_, rfl⟩
        have hb2 : b < 256 := by omega
        have e1 : (m : Int) % 256 = (b : Int) := by omega
        have e2 : (m : Int) / 256 = (m2 : Int) := by omega
        have hm3 : m2 < 18446744073709551616 := by omega
        have h0z : (0 : Int) < (m : Int) := by omega
        obtain ⟨s, hs, hcv⟩ := conv1 wr b hb2
        have hs1 : s.size = 1 := by rw [← bs_len, hs]; rfl
        have hs2 : s.size ≤ 1 := by omega
        have HS := Lib.hid hs
        have HB := Lib.hid (And.intro hb hm2)
        clear hs hb hm2 hs1
        go_wp2_with fail
        have hbe := Pk.be_pos m h0
        rw [HB.out.1, HB.out.2] at hbe
        have hlen : (Pk.be m).length = (Pk.be m2).length + 1 := by rw [hbe, List.length_append]; rfl
        have hg := HR.out.2
        go_roundg (Pk.be m2).length
        case measure => omega
        case rel =>
          refine ⟨bel.alloc bel.size _, m2, _, rfl, rfl, hm3, ?_, rfl⟩
          rw [bs_append, HS.out, HR.out.1, hbe]
          simp
end Go.Proofs.Ytfhceblmjahgjaa
