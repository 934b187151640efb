/- Contract of the law's row: cells of kinds. Conditions: the slice reads as the kinds, at most 1000, each a byte. -/
import Derived.Test.YtddihpiheopleaaTm4
import Derived.Test.YtddihpiheopleaaClA
namespace Go.Proofs.Ytddihpiheopleaa.Tm
open Go.ChangeShapes Go.WideShapes Go.ChangeAt Go.RowKit
open Ce

def rowC (k : Int) : Cl := ⟨k, 0, 0, if 7 ≤ k then 2 else 5, false, false⟩
def rowL (ks : List Int) : List Cl := ks.map rowC
theorem rowL_take {ks : List Int} {k : Nat} {x : Int} (h : ks[k]? = some x) : rowL (ks.take (k + 1)) = rowL (ks.take k) ++ [rowC x] := by
  rw [List.take_add_one, h]
  simp [rowL]

set_option maxRecDepth 100000 in
set_option maxHeartbeats 1000000 in
theorem row_any (ks : List Int) (v : Value) (w : World) (hR : RowI .u8 w v ks) (hlen : ks.length ≤ 1000) :
    Calls Try.prog 21 #[v] w fun e w' => ∃ u, e = .returned u ∧ RwCl w' u (rowL ks) ∧ Below w.heap.size w w' := by
  obtain ⟨A, cap, rfl⟩ := hR.form
  obtain ⟨n, hn⟩ : ∃ n, ks.length = n := ⟨_, rfl⟩
  have HN := Lib.hid hn
  rw [hn] at hlen hR ⊢
  have HR := Lib.hid hR
  clear hR hn
  go_enter Try.func21, Try.ntmps21
  go_wp2_with fail
  go_loopg [3, 4] n (fun kx s3 s4 wr => Below w.heap.size w wr ∧ ∃ (k : Nat) (A7 : Option Addr) (n7 c7 : Nat), s3 = .slice A7 n7 c7 ∧ s4 = .int .i64 k ∧ k ≤ n ∧ kx = n - k ∧ Hid (OwCl w.heap.size wr (.slice A7 n7 c7) (rowL (ks.take k))))
  case atStart => exact ⟨Below.refl _ _, 0, none, 0, 0, rfl, rfl, by omega, rfl, Lib.hid (own_nil _ _ _ _)⟩
  case round =>
    obtain ⟨bel, k, A7, n7, c7, rfl, rfl, hk, rfl, HO⟩ := hrel
    by_cases hlt : k < n
    · have hlz : (k : Int) < n := by omega
      have HLT := Lib.hid hlt
      obtain ⟨x, hx⟩ : ∃ x, ks[k]? = some x := ⟨_, List.getElem?_eq_getElem (by rw [HN.out]; exact hlt)⟩
      obtain ⟨ad, cap2, hv, hc⟩ := (HR.out.below bel).get hx
      rw [HN.out] at hv
      injection hv with hv1 hv2 hv3
      subst hv1 hv3
      have HX := Lib.hid hx
      have HSM : Hid ((rowL (ks.take k)).length < 4194304) := Lib.hid (by unfold rowL; rw [List.length_map, List.length_take]; omega)
      have HSZ : Hid (∀ o, w.heap.size ≤ (wr.alloc o).heap.size) := Lib.hid (fun o => by have := bel.size; simp; omega)
      clear hv2 hlt hx
      by_cases h7 : 7 ≤ x
      · have HC : Hid (rowC x = ⟨x, 0, 0, 2, false, false⟩) := Lib.hid (by unfold rowC; simp [h7])
        go_wp2_with (refine apCl (o1 := ⟨some 23, _, _, _, _, _⟩) rfl (.tmp 22) rfl 23 rfl rfl (.tmp 21) rfl ⟨x, 0, 0, 2, false, false⟩ rfl (.slice A7 n7 c7) (fun _ => rfl) (fun _ => rfl) w.heap.size (rowL (ks.take k)) (HO.out.alloc _) HSM.out (HSZ.out _) ?_; intro u8 A8 n8 c8 w8 O8 b8 _ _; refine Mk.out ?_)
        constructor
        have HO8 := Lib.hid O8
        clear O8
        go_wp2_with fail
        go_roundg (n - (k + 1))
        case measure => have := HLT.out; omega
        case rel => exact ⟨bel.trans ((below_alloc _ _).mono bel.size |>.trans b8), k + 1, A8, n8, c8, rfl, by go_num, by have := HLT.out; omega, rfl, Lib.hid (by rw [rowL_take HX.out, HC.out]; exact HO8.out)⟩
      · have HC : Hid (rowC x = ⟨x, 0, 0, 5, false, false⟩) := Lib.hid (by unfold rowC; simp [h7])
        go_wp2_with (refine apCl (o1 := ⟨some 23, _, _, _, _, _⟩) rfl (.tmp 22) rfl 23 rfl rfl (.tmp 21) rfl ⟨x, 0, 0, 5, false, false⟩ rfl (.slice A7 n7 c7) (fun _ => rfl) (fun _ => rfl) w.heap.size (rowL (ks.take k)) (HO.out.alloc _) HSM.out (HSZ.out _) ?_; intro u8 A8 n8 c8 w8 O8 b8 _ _; refine Mk.out ?_)
        constructor
        have HO8 := Lib.hid O8
        clear O8
        go_wp2_with fail
        go_roundg (n - (k + 1))
        case measure => have := HLT.out; omega
        case rel => exact ⟨bel.trans ((below_alloc _ _).mono bel.size |>.trans b8), k + 1, A8, n8, c8, rfl, by go_num, by have := HLT.out; omega, rfl, Lib.hid (by rw [rowL_take HX.out, HC.out]; exact HO8.out)⟩
    · obtain rfl : k = n := by omega
      go_wp2_with fail
      go_ret
      refine ⟨_, rfl, ?_, bel⟩
      have := HO.out
      rw [List.take_of_length_le (by rw [HN.out]; exact Nat.le_refl _)] at this
      exact own_rwCl this
end Go.Proofs.Ytddihpiheopleaa.Tm
