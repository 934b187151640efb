/- Contracts of the document's answers for layer 2 (package stickfulref02): begins, point. Conditions: the text is not empty and is at most as long as a string may be; of point: it has one to four bytes. -/
import Derived.Test.YtgnalnppjhgmjaaDoorU1
import Derived.Deep.QuietTactic
import Derived.BigQuiet
import Derived.Deep.LoopGhost
import Derived.Deep.DeepCutAuto
namespace Go.Proofs.YtgnalnppjhgmjaaDoor
open Go.ChangeShapes Go.WideShapes Go.ChangeAt Go.RowKit

/-- nothing but draws -/
def Drawn (w w' : World) : Prop := ∃ n, w' = w.drewN n
theorem Drawn.refl (w : World) : Drawn w w := ⟨0, rfl⟩
theorem Drawn.drewN {w w' : World} (h : Drawn w w') (n : Nat) : Drawn w (w'.drewN n) := by
  obtain ⟨m, rfl⟩ := h
  exact ⟨m + n, World.drewN_drewN _ _ _⟩
theorem Drawn.trans {a b c : World} (h : Drawn a b) (k : Drawn b c) : Drawn a c := by
  obtain ⟨m, rfl⟩ := k
  exact h.drewN m

/-- a string's bytes, as numbers -/
def bs (s : ByteArray) : List Nat := s.data.toList.map UInt8.toNat
theorem bs_len (s : ByteArray) : (bs s).length = s.size := by simp [bs]
theorem bs_get (s : ByteArray) (k : Nat) (h : k < s.size) : (bs s)[k]? = some s[k].toNat := by
  have : s.data.toList[k]? = some s[k] := by
    rw [List.getElem?_eq_getElem (by simpa using h)]
    rfl
  simp [bs, this]
theorem bs_drop (s : ByteArray) (k : Nat) (h : k < s.size) : (bs s).drop k = s[k].toNat :: (bs s).drop (k + 1) := by
  have h2 : k < (bs s).length := by rw [bs_len]; exact h
  rw [List.drop_eq_getElem_cons h2]
  congr 1
  have := bs_get s k h
  rw [List.getElem?_eq_getElem h2] at this
  exact Option.some.inj this
theorem byte_le (c : UInt8) : c.toNat ≤ 255 := by have := c.toNat_lt; omega

theorem quiet_eq {P : Program} {f : FuncId} {args : Array Value} {w : World} {n : Nat} {v : Value}
    (h : Calls P f args (w.drewN n) fun e w' => e = .returned v ∧ w.drewN n = w') : Calls P f args (w.drewN n) fun e w'' => e = .returned v ∧ ∃ m, w'' = w.drewN m :=
  h.mono fun _ _ ⟨he, hm⟩ => ⟨he, n, hm.symm⟩

theorem bg_first (c : Nat) (r : List Nat) (h : 0 < Utf.long c) : 1 = 0 ∨ (1 ≤ 1 ∧ Utf.begins (c :: r) = 1 + Utf.cnt c (Utf.long c - 1) 1 ((c :: r).drop 1)) := by
  right
  refine ⟨Nat.le_refl _, ?_⟩
  simp only [Utf.begins, List.drop_succ_cons, List.drop_zero]
  rw [if_neg (by omega)]

/-- k bytes have been counted -/
def Bg (c : Nat) (l : List Nat) (k : Nat) : Prop := k = 0 ∨ (1 ≤ k ∧ Utf.begins l = k + Utf.cnt c (Utf.long c - k) k (l.drop k))

set_option maxRecDepth 100000 in
set_option maxHeartbeats 2000000 in
theorem begins_any (s : ByteArray) (w : World) (h0 : 0 < s.size) (hs : s.size ≤ 9223372036854775807) :
    Calls Tryd.prog 20 #[.string s] w fun e w' => e = .returned (.int .i64 (Utf.begins (bs s) : Nat)) ∧ Drawn w w' := by
  obtain ⟨c, hc⟩ : ∃ c : UInt8, s[0] = c := ⟨_, rfl⟩
  have hcb := byte_le c
  have hd0 := bs_drop s 0 h0
  rw [hc, List.drop_zero] at hd0
  have HD0 := Lib.hid hd0
  have C := Lib.hid (fun w => long_any c.toNat w hcb)
  obtain ⟨n, hn⟩ : ∃ n, Utf.long c.toNat = n := ⟨_, rfl⟩
  have hn4 := Utf.long_le c.toNat
  rw [hn] at C hn4
  have HN := Lib.hid hn
  clear hd0 hn
  have h0z : (0 : Int) < (s.size : Int) := by omega
  go_enter Tryd.func20, Tryd.ntmps20
  go_wp2_with fail
  refine (C.out _).mono ?_
  rintro e w' ⟨rfl, rfl⟩
  go_wp2_with fail
  go_loopg [4] 100 (fun g s4 wx => Drawn w wx ∧ ∃ k : Nat, s4 = .int .i64 k ∧ k ≤ n ∧ k ≤ s.size ∧ g = 100 - k ∧ Bg c.toNat (bs s) k)
  case atStart => exact ⟨Drawn.refl _, 0, rfl, by omega, by omega, rfl, Or.inl rfl⟩
  case round =>
    obtain ⟨dw, k, rfl, hk, hks, rfl, hB⟩ := hrel
    have HB := Lib.hid hB
    clear hB
    by_cases h1 : k < n
    · by_cases h2 : k < s.size
      · have h2z : (k : Int) < (s.size : Int) := by omega
        by_cases h3 : k = 0
        · subst h3
          go_wp2_with fail
          go_quiet (fail)
          go_wp2_with fail
          go_roundg (100 - 1)
          case measure => omega
          case rel => exact ⟨dw.drewN _, 1, by go_num, by omega, by omega, rfl, by rw [HD0.out]; exact bg_first _ _ (by rw [HN.out]; exact h1)⟩
        · obtain ⟨d, hd⟩ : ∃ d : UInt8, s[k] = d := ⟨_, rfl⟩
          have hdb := byte_le d
          have hdk := bs_drop s k h2
          rw [hd] at hdk
          have HDK := Lib.hid hdk
          have e3 : ((k : Int) == 0) = false := by simp; omega
          have hb : Utf.begins (bs s) = k + Utf.cnt c.toNat (n - k) k (d.toNat :: (bs s).drop (k + 1)) := by
            have := HB.out
            unfold Bg at this
            rw [HN.out, hdk] at this
            omega
          obtain ⟨m, hm⟩ : ∃ m, n - k = m + 1 := ⟨n - k - 1, by omega⟩
          rw [hm, Utf.cnt] at hb
          clear hdk
          cases hmay : Utf.may c.toNat k d.toNat
          · rw [if_neg (by simp [hmay]), Nat.add_zero] at hb
            have HE := Lib.hid hb
            have M := Lib.hid (fun w => may_is c.toNat k d.toNat false w hcb (by omega) hdb hmay)
            clear hb hmay hm
            go_wp2_with fail
            go_quiet ((go_at_call 27; exact quiet_eq (M.out _)))
            go_wp2_with fail
            go_ret
            exact ⟨ret1 (by rw [HE.out]), dw.drewN _⟩
          · rw [if_pos hmay] at hb
            have HE := Lib.hid hb
            have HM := Lib.hid hm
            have M := Lib.hid (fun w => may_is c.toNat k d.toNat true w hcb (by omega) hdb hmay)
            clear hb hmay hm
            go_wp2_with fail
            go_quiet ((go_at_call 27; exact quiet_eq (M.out _)))
            go_wp2_with fail
            go_roundg (100 - (k + 1))
            case measure => omega
            case rel => exact ⟨dw.drewN _, k + 1, by go_num, by omega, by omega, rfl, Or.inr ⟨by omega, by rw [HE.out, HN.out, show n - (k + 1) = m by have := HM.out; omega]; omega⟩⟩
      · have h2z : ¬ (k : Int) < (s.size : Int) := by omega
        have hd2 : decide ((k : Int) < (s.size : Int)) = false := by simp; omega
        have hb : Utf.begins (bs s) = k := by
          have := HB.out
          unfold Bg at this
          rw [List.drop_eq_nil_of_le (by rw [bs_len]; omega)] at this
          have hz : ∀ m i, Utf.cnt c.toNat m i [] = 0 := by intro m i; cases m <;> rfl
          rw [hz] at this
          omega
        have HE := Lib.hid hb
        clear hb
        go_wp2_with fail
        go_quiet (fail)
        go_wp2_with fail
        go_ret
        exact ⟨ret1 (by rw [HE.out]), dw.drewN _⟩
    · have hd1 : decide ((k : Int) < (n : Int)) = false := by simp; omega
      have hb : Utf.begins (bs s) = k := by
        have := HB.out
        unfold Bg at this
        rw [HN.out, show n - k = 0 by omega] at this
        rcases this with hz | ⟨_, hz⟩
        · subst hz
          have hn0 : Utf.long c.toNat = 0 := by rw [HN.out]; omega
          rw [HD0.out]
          simp only [Utf.begins]
          rw [if_pos hn0]
        · rw [hz, Utf.cnt, Nat.add_zero]
      have HE := Lib.hid hb
      clear hb
      go_wp2_with fail
      go_quiet (fail)
      go_wp2_with fail
      go_ret
      exact ⟨ret1 (by rw [HE.out]), dw.drewN _⟩
end Go.Proofs.YtgnalnppjhgmjaaDoor
