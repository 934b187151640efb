/- Contract of arena's checkLength. Conditions: the nodes lie where the slice says, their numbers fit their kinds. -/
import Derived.Test.YtgpobhnonjdamaaDoorAr6b
import Derived.Test.YtgpobhnonjdamaaDoorY6
namespace Go.Proofs.YtgpobhnonjdamaaDoor
open Go.ChangeShapes Go.WideShapes Go.ChangeAt Go.RowKit

theorem take_one {l : List Nod} {k : Nat} {x : Nod} (h : l[k]? = some x) : l.take (k + 1) = l.take k ++ [x] := by
  rw [List.take_add_one, h]
  rfl
theorem sumT_append (l m : List Nod) : sumT (l ++ m) = sumT l + sumT m := by simp [sumT]
theorem sumT_one {l : List Nod} {k : Nat} {x : Nod} (h : l[k]? = some x) : sumT (l.take (k + 1)) = sumT (l.take k) + x.t.size := by
  rw [take_one h, sumT_append]
  simp [sumT]
theorem sumT_le (l : List Nod) (k : Nat) : sumT (l.take k) ≤ sumT l := by
  have h := sumT_append (l.take k) (l.drop k)
  rw [List.take_append_drop] at h
  omega

set_option maxRecDepth 100000 in
set_option maxHeartbeats 4000000 in
theorem aclen_any (l : List Nod) (v : Value) (w : World) (hR : Ns w v l) (hW : WfL l) (hlen : l.length ≤ 1048576) :
    Calls Tryd.prog 44 #[v] w fun e w' => e = .returned (.int .i64 (lenErr l)) ∧ Below w.heap.size w w' := by
  have HR := Lib.hid hR
  have HW := Lib.hid hW
  obtain ⟨A, cap, rfl⟩ := hR.form
  obtain ⟨n, hl⟩ : ∃ n, l.length = n := ⟨_, rfl⟩
  have HL := Lib.hid hl
  rw [hl] at hlen HR ⊢
  clear hR hW hl
  go_enter Tryd.func44, Tryd.ntmps44
  go_wp2_with fail
  go_loopg [3, 8] n (fun kx s3 s8 wr => ∃ (k s : Nat), s3 = .int .i64 (1048576 - (s : Int)) ∧ s8 = .int .i64 k ∧ k ≤ n ∧ s ≤ 1048576 ∧ kx = n - k ∧ Hid (sumT (l.take k) = s) ∧ Below w.heap.size w wr)
  case atStart => exact ⟨0, 0, rfl, rfl, by omega, by omega, rfl, Lib.hid rfl, Below.refl _ _⟩
  case round =>
    obtain ⟨k, s, rfl, rfl, hk, hs, rfl, HS, bel⟩ := hrel
    by_cases hlt : k < n
    · have hkl : k < l.length := by rw [HL.out]; exact hlt
      have hz : (k : Int) < n := by omega
      obtain ⟨x, hx⟩ := at_of hkl
      obtain ⟨ad, cap2, o, hv, _, ha, hLi⟩ := HR.out.get bel hx
      injection hv with hv1 hv2 hv3
      subst hv1 hv3
      have hts := (HW.out k x hx).t
      have h1 := sumT_one hx
      rw [HS.out] at h1
      obtain ⟨q, hq⟩ : ∃ q, x.t.size = q := ⟨_, rfl⟩
      have HQ := Lib.hid hq
      rw [hq] at hts h1
      have hrs := bel.size
      clear hv2 hx hkl hq
      by_cases hbig : s + q ≤ 1048576
      · have HS' : Hid (sumT (l.take (k + 1)) = s + q) := h1
        have hpos : ¬ 1048576 - (s : Int) - q < 0 := by omega
        clear h1 HS
        go_wp2_with (first
          | (refine ldN rfl (.tmp 10) rfl _ rfl x (ha ▸ hLi) ?_)
          | (refine nwN rfl rfl 5 rfl rfl (.tmp 11) rfl rfl x (fun _ => rfl) (fun _ => rfl) ?_; intro w5 b5 B5; have c2 : w5.cell? ⟨wr.heap.size, 2, none⟩ = some (.string x.t) := B5.cell 2; have hqq := HQ.out))
        go_roundg (n - (k + 1))
        case measure => omega
        case rel => exact ⟨k + 1, s + q, by go_num, by go_num, by omega, hbig, rfl, HS', bel.trans (b5.mono hrs)⟩
      · have RES : Hid (lenErr l = 3) := by
          show _ = _
          unfold lenErr
          have := sumT_le l (k + 1)
          rw [if_pos (by omega)]
        have hneg : 1048576 - (s : Int) - q < 0 := by omega
        clear h1 HS
        go_wp2_with (first
          | (refine ldN rfl (.tmp 10) rfl _ rfl x (ha ▸ hLi) ?_)
          | (refine nwN rfl rfl 5 rfl rfl (.tmp 11) rfl rfl x (fun _ => rfl) (fun _ => rfl) ?_; intro w5 b5 B5; have c2 : w5.cell? ⟨wr.heap.size, 2, none⟩ = some (.string x.t) := B5.cell 2; have hqq := HQ.out))
        go_ret
        exact ⟨ret1 RES.out.symm, bel.trans (b5.mono hrs)⟩
    · obtain rfl : k = n := by omega
      have RES : Hid (lenErr l = 0) := by
        show _ = _
        unfold lenErr
        have h1 := HS.out
        rw [List.take_of_length_le (by rw [HL.out]; omega)] at h1
        rw [if_neg (by omega)]
      clear HS
      go_wp2_with fail
      go_ret
      exact ⟨ret1 RES.out.symm, bel⟩

end Go.Proofs.YtgpobhnonjdamaaDoor
