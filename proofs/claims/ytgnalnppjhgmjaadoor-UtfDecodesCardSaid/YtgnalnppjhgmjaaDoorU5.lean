/- Contracts of the document's answers for layer 2 (package stickfulref02): Valid, Point. Condition of Valid: the text has at most 100000 bytes. -/
import Derived.Test.YtgnalnppjhgmjaaDoorU4
namespace Go.Proofs.YtgnalnppjhgmjaaDoor
open Go.ChangeShapes Go.WideShapes Go.ChangeAt Go.RowKit

set_option maxRecDepth 100000 in
set_option maxHeartbeats 2000000 in
theorem rvalid_any (s : ByteArray) (w : World) (hs : s.size ≤ 100000) :
    Calls Tryd.prog 15 #[.string s] w fun e w' => e = .returned (.bool (Utf.valid (bs s))) ∧ Drawn w w' := by
  go_enter Tryd.func15, Tryd.ntmps15
  go_wp2_with fail
  go_loopg [3] 200000 (fun g s3 wx => Drawn w wx ∧ ∃ k : Nat, s3 = .int .i64 k ∧ k ≤ s.size ∧ g = 200000 - k ∧ Hid (Utf.valid (bs s) = Utf.valid ((bs s).drop k)))
  case atStart => exact ⟨Drawn.refl _, 0, rfl, by omega, rfl, by show _ = _; simp⟩
  case round =>
    obtain ⟨dw, k, rfl, hk, rfl, HV⟩ := hrel
    by_cases hlt : k < s.size
    · have hltz : (k : Int) < (s.size : Int) := by omega
      obtain ⟨c, hc⟩ : ∃ c : UInt8, s[k] = c := ⟨_, rfl⟩
      have hcb := byte_le c
      have hdk2 := bs_drop s k hlt
      rw [hc] at hdk2
      have HK := Lib.hid hdk2
      have C1 : Hid (∀ w, Calls Tryd.prog 20 #[.string (s.extract k s.size)] w fun e w' => e = .returned (.int .i64 (Utf.begins ((bs s).drop k) : Nat)) ∧ Drawn w w') := by
        intro w
        have h := begins_any (s.extract k s.size) w (by simp; omega) (by simp; omega)
        rw [bs_extract, List.take_of_length_le (by rw [List.length_drop, bs_len]; omega)] at h
        exact h
      have hbl := Utf.begins_le ((bs s).drop k)
      obtain ⟨q, hq⟩ : ∃ q, Utf.begins ((bs s).drop k) = q := ⟨_, rfl⟩
      rw [hq] at C1 hbl
      have HQ := Lib.hid hq
      have hl4 := Utf.long_le c.toNat
      have hq2 : q ≤ s.size - k := by have := hbl.2; rw [List.length_drop, bs_len] at this; exact this
      have hq4 := hbl.1
      have hbq : Utf.begins (c.toNat :: (bs s).drop (k + 1)) = q := by rw [← HK.out]; exact HQ.out
      have hok : Utf.ok (c.toNat :: (bs s).drop (k + 1)) = (decide (0 < q) && decide (q = Utf.long c.toNat)) := by
        have : Utf.ok (c.toNat :: (bs s).drop (k + 1)) = (decide (0 < Utf.begins (c.toNat :: (bs s).drop (k + 1))) && decide (Utf.begins (c.toNat :: (bs s).drop (k + 1)) = Utf.long c.toNat)) := rfl
        rw [this, hbq]
      have hvs : Utf.valid (bs s) = (Utf.ok (c.toNat :: (bs s).drop (k + 1)) && Utf.valid ((bs s).drop (k + Utf.size (c.toNat :: (bs s).drop (k + 1))))) := by
        rw [HV.out, HK.out, Utf.valid, ← HK.out, List.drop_drop]
      obtain ⟨m, hm⟩ : ∃ m, Utf.long c.toNat = m := ⟨_, rfl⟩
      have C2 := Lib.hid (fun w => long_any c.toNat w hcb)
      rw [hm] at C2 hok hl4
      clear hq hdk2 hbl hm
      by_cases q0 : q = 0
      · have hf : Utf.valid (bs s) = false := by rw [hvs, hok]; simp [q0]
        have HF := Lib.hid hf
        clear hok hbq hvs hf
        subst q0
        go_wp2_with fail
        refine (C1.out _).mono ?_
        rintro e w1 ⟨rfl, d1⟩
        go_wp2_with fail
        go_ret
        exact ⟨retb HF.out.symm, dw.trans d1⟩
      · have q1 : ((q : Int) == 0) = false := by simp; omega
        by_cases qm : q = m
        · have hf : Utf.ok (c.toNat :: (bs s).drop (k + 1)) = true := by rw [hok]; simp [qm]; omega
          have hsz : Utf.size (c.toNat :: (bs s).drop (k + 1)) = q := by unfold Utf.size; rw [if_pos hf, hbq]
          rw [hf, hsz, Bool.true_and] at hvs
          have HF := Lib.hid hvs
          clear hok hbq hvs hf hsz
          subst qm
          go_wp2_with fail
          refine (C1.out _).mono ?_
          rintro e w1 ⟨rfl, d1⟩
          go_wp2_with fail
          refine (C2.out _).mono ?_
          rintro e w' ⟨rfl, rfl⟩
          go_wp2_with fail
          go_roundg (200000 - (k + q))
          case measure => omega
          case rel => exact ⟨dw.trans d1, k + q, by go_num, by omega, rfl, HF⟩
        · have hf : Utf.valid (bs s) = false := by rw [hvs, hok]; simp [qm]
          have HF := Lib.hid hf
          have qmi : ((q : Int) == (m : Int)) = false := by simp; omega
          have qmj : ((q : Int) != (m : Int)) = true := by simp; omega
          clear hok hbq hvs hf
          go_wp2_with fail
          refine (C1.out _).mono ?_
          rintro e w1 ⟨rfl, d1⟩
          go_wp2_with fail
          refine (C2.out _).mono ?_
          rintro e w' ⟨rfl, rfl⟩
          go_wp2_with fail
          go_ret
          exact ⟨retb HF.out.symm, dw.trans d1⟩
    · have fin : Utf.valid (bs s) = true := by
        rw [HV.out, bs_end s k (by omega), Utf.valid]
      have FIN := Lib.hid fin
      clear fin
      go_wp2_with fail
      go_ret
      exact ⟨retb FIN.out.symm, dw⟩

set_option maxHeartbeats 400000 in
theorem pt_yes (r : Int) (w : World) (h : Utf.Pt r) :
    Calls Tryd.prog 18 #[.int .i32 r] w fun e w' => e = .returned (.bool true) ∧ w = w' := by
  unfold Utf.Pt at h
  obtain ⟨h1, h2, h3⟩ := h
  by_cases h4 : r < 55296
  · clear h3
    go_enter Tryd.func18, Tryd.ntmps18
    go_wp2
    go_ret
    exact ⟨rfl, rfl⟩
  · have h5 : 57343 < r := by omega
    clear h3
    go_enter Tryd.func18, Tryd.ntmps18
    go_wp2
    go_ret
    exact ⟨rfl, rfl⟩

set_option maxHeartbeats 400000 in
theorem pt_no (r : Int) (w : World) (h : ¬ Utf.Pt r) :
    Calls Tryd.prog 18 #[.int .i32 r] w fun e w' => e = .returned (.bool false) ∧ w = w' := by
  unfold Utf.Pt at h
  by_cases h1 : 0 ≤ r
  · by_cases h2 : r ≤ 1114111
    · have h4 : ¬ r < 55296 := by omega
      have h5 : ¬ 57343 < r := by omega
      clear h
      go_enter Tryd.func18, Tryd.ntmps18
      go_wp2
      go_ret
      exact ⟨rfl, rfl⟩
    · clear h
      go_enter Tryd.func18, Tryd.ntmps18
      go_wp2
      go_ret
      exact ⟨rfl, rfl⟩
  · clear h
    go_enter Tryd.func18, Tryd.ntmps18
    go_wp2
    go_ret
    exact ⟨rfl, rfl⟩
end Go.Proofs.YtgnalnppjhgmjaaDoor
