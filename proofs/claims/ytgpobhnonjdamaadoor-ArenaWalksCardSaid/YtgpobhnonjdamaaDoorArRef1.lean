/- Contracts of the document's Kids and SameInts for layer 7. Conditions: the nodes lie where the slice says, at most 1000 of them. -/
import Derived.Test.YtgpobhnonjdamaaDoorApG
import Derived.Test.YtgpobhnonjdamaaDoorAr5
namespace Go.Proofs.YtgpobhnonjdamaaDoor
open Go.ChangeShapes Go.WideShapes Go.ChangeAt Go.RowKit

/-- the kids of a among the first k nodes -/
def kidsT (ps : List Int) (a k : Nat) : List Nat := (List.range k).filter fun j => decide (pr ps j = (a : Int))
theorem kidsT_succ (ps : List Int) (a k : Nat) : kidsT ps a (k + 1) = if pr ps k = (a : Int) then kidsT ps a k ++ [k] else kidsT ps a k := by
  unfold kidsT
  rw [List.range_succ, List.filter_append, List.filter_cons, List.filter_nil]
  by_cases h : pr ps k = (a : Int)
  · rw [if_pos h, if_pos (decide_eq_true h)]
  · rw [if_neg h, if_neg (by simp [h]), List.append_nil]
theorem kidsT_len (ps : List Int) (a k : Nat) : (kidsT ps a k).length ≤ k :=
  Nat.le_trans (List.length_filter_le _ _) (by rw [List.length_range]; exact Nat.le_refl _)
theorem kidsL_len (ps : List Int) (a : Nat) : (kidsL ps a).length ≤ ps.length := kidsT_len ps a ps.length

set_option maxRecDepth 100000 in
set_option maxHeartbeats 4000000 in
theorem rkids_any (l : List Nod) (v : Value) (a : Nat) (w : World) (hR : Ns w v l) (hn : l.length ≤ 1000) :
    Calls Tryd.prog 20 #[v, .int .i64 (a : Int)] w fun e w' => ∃ u, e = .returned u ∧ Row (fun _ => False) w' u ((kidsL (psOf l) a).map iv) ∧ Below w.heap.size w w' := by
  have HR := Lib.hid hR
  have FIN : Hid (kidsL (psOf l) a = kidsT (psOf l) a l.length) := Lib.hid (by unfold kidsL kidsT; rw [psOf_len])
  obtain ⟨A, cap, rfl⟩ := hR.form
  obtain ⟨n, hl⟩ : ∃ n, l.length = n := ⟨_, rfl⟩
  have HL := Lib.hid hl
  rw [hl] at hn HR FIN ⊢
  obtain ⟨ks, hks⟩ : ∃ ks, kidsL (psOf l) a = ks := ⟨_, rfl⟩
  rw [hks] at FIN ⊢
  clear hR hl hks
  go_enter Tryd.func20, Tryd.ntmps20
  go_wp2_with fail
  go_loopg [5, 6] n (fun kx s5 s6 wr => ∃ (k : Nat) (v0 : Value) (m : Nat), s6 = .int .i64 k ∧ v0 = s5 ∧ k ≤ n ∧ kx = n - k ∧ m ≤ k ∧ Hid (m = (kidsT (psOf l) a k).length) ∧ Below w.heap.size w wr ∧ wr.ownsRow w.heap.size 3 1 v0 m ((kidsT (psOf l) a k).map iv))
  case atStart => exact ⟨0, _, 0, rfl, rfl, by omega, rfl, by omega, Lib.hid rfl, Below.refl _ _, ⟨rfl, .inl ⟨rfl, rfl⟩⟩⟩
  case round =>
    obtain ⟨k, v0, m, rfl, rfl, hk, rfl, hmk, HM, bel, hown⟩ := hrel
    have HOWN := Lib.hid hown
    clear hown
    by_cases hlt : k < n
    · have hkl : k < l.length := by rw [HL.out]; exact hlt
      have hz : (k : Int) < n := by omega
      obtain ⟨x, hx⟩ := at_of hkl
      have hp := pr_of hx
      have hs := kidsT_succ (psOf l) a k
      rw [hp] at hs
      obtain ⟨ad, cap2, o, hv, _, ha, hLi⟩ := HR.out.get bel hx
      rw [HL.out] at hv
      injection hv with hv1 hv2 hv3
      subst hv1 hv3
      have hc := hLi.p
      obtain ⟨p, hpp⟩ : ∃ p, x.p = p := ⟨_, rfl⟩
      rw [hpp] at hc hs
      have hbs := bel.size
      clear hv2 hx hp hpp hLi hkl
      by_cases he : p = (a : Int)
      · have HS : Hid (kidsT (psOf l) a (k + 1) = kidsT (psOf l) a k ++ [k]) := Lib.hid (by rw [hs, if_pos he])
        subst he
        clear hs
        go_wp2_with (refine apI rfl (.tmp 21) rfl 22 rfl rfl (.tmp 20) rfl (k : Int) rfl v0 (fun _ => rfl) (fun _ => rfl) w.heap.size m _ HOWN.out (by omega) hbs ?_; intro uu v5 w5 hown5 b5)
        go_roundg (n - (k + 1))
        case measure => omega
        case rel => exact ⟨k + 1, _, m + 1, by go_num, rfl, by omega, rfl, by omega, Lib.hid (by rw [HS.out, List.length_append, ← HM.out]; rfl), bel.trans b5, by rw [HS.out, List.map_append]; exact hown5⟩
      · have HS : Hid (kidsT (psOf l) a (k + 1) = kidsT (psOf l) a k) := Lib.hid (by rw [hs, if_neg he])
        have he2 : ((p == (a : Int)) = false) := by simpa using he
        clear hs
        go_wp2_with fail
        go_roundg (n - (k + 1))
        case measure => omega
        case rel => exact ⟨k + 1, _, m, by go_num, rfl, by omega, rfl, by omega, Lib.hid (by rw [HS.out]; exact HM.out), bel, by rw [HS.out]; exact HOWN.out⟩
    · obtain rfl : k = n := by omega
      go_wp2_with fail
      go_ret
      refine ⟨_, rfl, ?_, bel⟩
      rw [FIN.out]
      exact (Row.of_own HOWN.out).mono (T := fun _ => False) fun _ _ h => h.elim

set_option maxRecDepth 100000 in
set_option maxHeartbeats 4000000 in
theorem rints_any (v1 v2 : Value) (xs : List Nat) (w : World) (h1 : Row (fun _ => False) w v1 (xs.map iv)) (h2 : Row (fun _ => False) w v2 (xs.map iv)) (hn : xs.length ≤ 1000000) :
    Calls Tryd.prog 19 #[v1, v2] w fun e w' => e = .returned (.bool true) ∧ Below w.heap.size w w' := by
  have H1 := Lib.hid h1
  have H2 := Lib.hid h2
  obtain ⟨A, c, rfl⟩ := h1.form
  obtain ⟨B, c2, rfl⟩ := h2.form
  rw [List.length_map] at H1 H2 ⊢
  obtain ⟨n, hl⟩ : ∃ n, xs.length = n := ⟨_, rfl⟩
  have HL := Lib.hid hl
  rw [hl] at hn H1 H2 ⊢
  clear h1 h2 hl
  go_enter Tryd.func19, Tryd.ntmps19
  go_wp2_with fail
  go_loopg [5] n (fun kx s5 wr => ∃ k : Nat, s5 = .int .i64 k ∧ k ≤ n ∧ kx = n - k ∧ Below w.heap.size w wr)
  case atStart => exact ⟨0, rfl, by omega, rfl, Below.refl _ _⟩
  case round =>
    obtain ⟨k, rfl, hk, rfl, bel⟩ := hrel
    by_cases hlt : k < n
    · have hz : (k : Int) < n := by omega
      have hkl : k < xs.length := by rw [HL.out]; exact hlt
      obtain ⟨x, hx⟩ : ∃ x, xs[k]? = some x := ⟨_, List.getElem?_eq_getElem hkl⟩
      obtain ⟨a1, cap1, hv, hab, _, hcell⟩ := H1.out.at_ (by rw [List.length_map]; omega)
      rw [List.length_map, HL.out] at hv
      injection hv with hv1 hv2 hv3
      subst hv1 hv3
      have hc1 : w.cell? (a1.add k) = some (iv x) := hcell k _ (by rw [List.getElem?_map, hx]; rfl)
      obtain ⟨a2, cap2, hv, hab2, _, hcell2⟩ := H2.out.at_ (by rw [List.length_map]; omega)
      rw [List.length_map, HL.out] at hv
      injection hv with hv1 hv4 hv3
      subst hv1 hv3
      have hc2 : w.cell? (a2.add k) = some (iv x) := hcell2 k _ (by rw [List.getElem?_map, hx]; rfl)
      have e1 : wr.cell? (a1.add k) = some (.int .i64 (x : Int)) := (bel.cell (by rw [block_of_add]; exact hab)).trans hc1
      have e2 : wr.cell? (a2.add k) = some (.int .i64 (x : Int)) := (bel.cell (by rw [block_of_add]; exact hab2)).trans hc2
      clear hv2 hv4 hkl hx hcell hcell2 hc1 hc2 hab hab2
      go_wp2_with fail
      go_quiet (fail)
      go_wp2_with fail
      go_roundg (n - (k + 1))
      case measure => omega
      case rel => exact ⟨k + 1, by go_num, by omega, rfl, below_drewN bel _⟩
    · obtain rfl : k = n := by omega
      go_wp2_with fail
      go_ret
      exact ⟨rfl, bel⟩
end Go.Proofs.YtgpobhnonjdamaaDoor
