/- Contract of great (package stickfullaw07). Conditions: the nodes lie where the slice says; no more of them than a slice may hold. -/
import Derived.Test.YtgpobhnonjdamaaDoorAr6c
namespace Go.Proofs.YtgpobhnonjdamaaDoor
open Go.ChangeShapes Go.WideShapes Go.ChangeAt Go.RowKit

def GreatPost (l : List Nod) (w : World) (e : Ending) (w' : World) : Prop := ∃ b, e = .returned (.bool b) ∧ (b = false → l.length ≤ 150 ∧ (sumT l ≤ 1048576 → sumT l ≤ 5000)) ∧ w = w'

set_option maxRecDepth 100000 in
set_option maxHeartbeats 4000000 in
theorem great_any (l : List Nod) (v : Value) (w : World) (hR : Ns w v l) (hn : l.length ≤ 9223372036854775807) :
    Calls Tryd.prog 8 #[v] w (GreatPost l w) := by
  have HR := Lib.hid hR
  obtain ⟨A, cap, rfl⟩ := hR.form
  obtain ⟨n, hl⟩ : ∃ n, l.length = n := ⟨_, rfl⟩
  have HL := Lib.hid hl
  rw [hl] at hn HR ⊢
  clear hR hl
  go_enter Tryd.func8, Tryd.ntmps8
  go_wp2_with fail
  go_loopg [3, 4] n (fun kx s3 s4 wr => w = wr ∧ ∃ (k : Nat) (z : Int), s3 = .int .i64 z ∧ s4 = .int .i64 k ∧ k ≤ n ∧ kx = n - k ∧ Hid (sumT l ≤ 1048576 → z = (sumT (l.take k) : Nat)))
  case atStart => exact ⟨rfl, 0, 0, rfl, rfl, by omega, rfl, Lib.hid fun _ => rfl⟩
  case round =>
    obtain ⟨rfl, k, z, rfl, rfl, hk, rfl, HZ⟩ := hrel
    by_cases hlt : k < n
    · have hkl : k < l.length := by rw [HL.out]; exact hlt
      have hz : (k : Int) < n := by omega
      obtain ⟨x, hx⟩ := at_of hkl
      obtain ⟨ad, cap2, o, hv, _, ha, hLi⟩ := HR.out.get (Below.refl _ _) hx
      rw [HL.out] at hv
      injection hv with hv1 hv2 hv3
      subst hv1 hv3
      have hc := hLi.t
      obtain ⟨z', hw⟩ : ∃ z', IntKind.i64.wrap (z + (x.t.size : Nat)) = z' := ⟨_, rfl⟩
      have HZ2 : Hid (sumT l ≤ 1048576 → z' = (sumT (l.take (k + 1)) : Nat)) := Lib.hid fun hs => by
        have h1 := HZ.out hs
        have h2 := sumT_one hx
        have h3 := sumT_le l (k + 1)
        rw [← hw, IntWalk.i64_in _ (by omega), h1, h2]
        omega
      obtain ⟨t, ht⟩ : ∃ t, x.t = t := ⟨_, rfl⟩
      rw [ht] at hc hw
      clear hv2 hx ht hLi hkl HZ
      go_wp2_with fail
      go_roundg (n - (k + 1))
      case measure => omega
      case rel => exact ⟨rfl, k + 1, z', rfl, by go_num, by omega, rfl, HZ2⟩
    · obtain rfl : k = n := by omega
      have HF : Hid (sumT l ≤ 1048576 → z = (sumT l : Nat)) := Lib.hid fun hs => by
        have := HZ.out hs
        rwa [List.take_of_length_le (by rw [HL.out]; exact Nat.le_refl _)] at this
      clear HZ
      by_cases h1 : 150 < k
      · have h1z : (150 : Int) < k := by omega
        go_wp2_with fail
        go_ret
        exact ⟨true, by simp_all, fun h => (by cases h), rfl⟩
      · have h1z : (k : Int) ≤ 150 := by omega
        by_cases h2 : 5000 < z
        · go_wp2_with fail
          go_ret
          exact ⟨true, by simp_all, fun h => (by cases h), rfl⟩
        · have h2z : z ≤ 5000 := by omega
          go_wp2_with fail
          go_ret
          exact ⟨_, rfl, fun _ => ⟨by rw [HL.out]; omega, fun hs => by have := HF.out hs; omega⟩, rfl⟩
end Go.Proofs.YtgpobhnonjdamaaDoor
