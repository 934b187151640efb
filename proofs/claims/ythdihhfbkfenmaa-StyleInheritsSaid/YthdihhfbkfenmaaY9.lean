/- Contract of style.Merge. Condition: the declarations' bits are 16-bit numbers. -/
import Derived.Test.YthdihhfbkfenmaaY6
namespace Go.Proofs.Ythdihhfbkfenmaa
open Go.ChangeShapes Go.WideShapes Go.ChangeAt Go.RowKit

set_option maxRecDepth 100000 in
set_option maxHeartbeats 4000000 in
theorem ymerge_any (a b : Dcl) (w : World) (ha : a.n < 65536) (hb : b.n < 65536) :
    Calls Try.prog 10 #[.agg a.cells, .agg b.cells] w fun e w' => e = .returned (.tuple #[.agg (mrgV a b).cells, .int .i64 (mrgE a b)]) ∧ Below w.heap.size w w' := by
  have C1 := Lib.hid (fun w => ychkd_any a w ha)
  have C2 := Lib.hid (fun w => ychkd_any b w hb)
  have CA := Lib.hid (fun w => yapply_any a.s b w hb)
  rcases chkD_cases a with ⟨hv, hc⟩ | ⟨hv, hc⟩
  · rcases chkD_cases b with ⟨hv2, hc2⟩ | ⟨hv2, hc2⟩
    · have e1 : mrgV a b = mrg a b := by unfold mrgV; rw [hv, hv2]; rfl
      have e2 : mrgE a b = 0 := by unfold mrgE; rw [hv, hv2]; rfl
      have hor : bits .or .u16 (a.n : Int) (b.n : Int) = ((a.n ||| b.n : Nat) : Int) := u16_or_nat a.n b.n ha hb
      rw [e1, e2]
      rw [hc] at C1
      rw [hc2] at C2
      have HM : Hid (mrg a b = ⟨a.n ||| b.n, over a.s b⟩) := rfl
      clear hv hv2 hc hc2 e1 e2
      obtain ⟨o, ho⟩ : ∃ o, over a.s b = o := ⟨_, rfl⟩
      rw [ho] at CA HM
      obtain ⟨q, hq⟩ : ∃ q, mrg a b = q := ⟨_, rfl⟩
      rw [hq] at HM ⊢
      clear ho hq
      go_enter Try.func10, Try.ntmps10
      go_wp2_with (first
        | (refine bxDV rfl (.tmp 0) rfl a rfl ?_; intro w1 b1 B1)
        | (refine bxDV rfl (.tmp 1) rfl b rfl ?_; intro w2 b2 B2)
        | (refine alDV rfl rfl ?_; intro w3 b3 B3)
        | (refine ldD rfl (.tmp 2) rfl _ rfl a (Blk.lies ((B1.keep (S := fun _ => False) (Mod.of_below b2) id).keep (S := fun _ => False) (Mod.of_below b3) id)) ?_))
      refine (C1.out _).mono ?_
      rintro e w4 ⟨rfl, b4⟩
      have hg3 : w.heap.size ≤ w2.heap.size := Nat.le_trans b1.size b2.size
      have hg1 : w.heap.size < w1.heap.size := B1.lt
      have hg2 : w1.heap.size < w2.heap.size := B2.lt
      have K1 : Blk w4 w.heap.size 26 a.cells := ((B1.keep (S := fun _ => False) (Mod.of_below b2) id).keep (S := fun _ => False) (Mod.of_below b3) id).keep (S := fun _ => False) (Mod.of_below b4) id
      have K2 : Blk w4 w1.heap.size 26 b.cells := (B2.keep (S := fun _ => False) (Mod.of_below b3) id).keep (S := fun _ => False) (Mod.of_below b4) id
      have K3 : Blk w4 w2.heap.size 26 Dcl.zero.cells := B3.keep (S := fun _ => False) (Mod.of_below b4) id
      have b03 := below_seq (below_seq b1 b2) b3
      clear b1 B1 b2 B2 b3 B3
      go_wp2_with (refine ldDIf (by kernel_rfl) (.tmp 3) rfl _ rfl b K2.lies ?_)
      refine (C2.out _).mono ?_
      rintro e w5 ⟨rfl, b5⟩
      have L1 := K1.keep (S := fun _ => False) (Mod.of_below b5) id
      have L2 := K2.keep (S := fun _ => False) (Mod.of_below b5) id
      have L3 := K3.keep (S := fun _ => False) (Mod.of_below b5) id
      have b05 := below_seq (below_seq b03 b4) b5
      clear K1 K2 K3 b03 b4 b5
      have hl1 := L1.lt
      have hl2 := L2.lt
      have hl3 := L3.lt
      have HO := Lib.hid hor
      clear hor
      go_wp2_with fail
      refine wp_region_noPanic ?_
      refine wp_region_held_drew (S := fun W => Mod (fun k => k = w2.heap.size) w5 W ∧ ∃ c : Dcl, Blk W w2.heap.size 26 c.cells) (by kernel_rfl) (⟨(Mod.refl _ _).drew, .zero, L3.drewN 1⟩) (fun hHeld => ?_)
      refine wpAnyH_take (i := 0) (v := ?_) (by rw [List.getElem?_toArray]; rfl) (by kernel_rfl) (by kernel_rfl) (by kernel_rfl) (fun _ _ _ h => h) (Or.inl ⟨by rfl, ?_⟩) (by assumption) ?_
      rotate_left
      · intro W hSw
        (try dsimp only at hSw)
        go_simp
        (try with_reducible rfl)
      rotate_left
      (try simp only [Act.put, List.setIfInBounds_toArray, List.set_cons_zero, List.set_cons_succ])
      refine wpAnyH_take (i := 1) (v := ?_) (by rw [List.getElem?_toArray]; rfl) (by kernel_rfl) (by kernel_rfl) (by kernel_rfl) (fun _ _ _ h => h) (Or.inl ⟨by rfl, ?_⟩) (by assumption) ?_
      rotate_left
      · intro W hSw
        (try dsimp only at hSw)
        have cq : W.cell? ⟨w.heap.size, 0, none⟩ = some (.int .u16 a.n) := (L1.keep hSw.1 (by omega)).cell 0
        go_simp
        (try with_reducible rfl)
      rotate_left
      (try simp only [Act.put, List.setIfInBounds_toArray, List.set_cons_zero, List.set_cons_succ])
      refine wpAnyH_take (i := 2) (v := ?_) (by rw [List.getElem?_toArray]; rfl) (by kernel_rfl) (by kernel_rfl) (by kernel_rfl) (fun _ _ _ h => h) (Or.inl ⟨by rfl, ?_⟩) (by assumption) ?_
      rotate_left
      · intro W hSw
        (try dsimp only at hSw)
        go_simp
        (try with_reducible rfl)
      rotate_left
      (try simp only [Act.put, List.setIfInBounds_toArray, List.set_cons_zero, List.set_cons_succ])
      refine wpAnyH_take (i := 3) (v := ?_) (by rw [List.getElem?_toArray]; rfl) (by kernel_rfl) (by kernel_rfl) (by kernel_rfl) (fun _ _ _ h => h) (Or.inl ⟨by rfl, ?_⟩) (by assumption) ?_
      rotate_left
      · intro W hSw
        (try dsimp only at hSw)
        have cq : W.cell? ⟨w1.heap.size, 0, none⟩ = some (.int .u16 b.n) := (L2.keep hSw.1 (by omega)).cell 0
        go_simp
        (try with_reducible rfl)
      rotate_left
      (try simp only [Act.put, List.setIfInBounds_toArray, List.set_cons_zero, List.set_cons_succ])
      refine wpAnyH_take (i := 4) (v := .int .u16 ((a.n ||| b.n : Nat) : Int)) (by rw [List.getElem?_toArray]; rfl) (by kernel_rfl) (by kernel_rfl) (by kernel_rfl) (fun _ _ _ h => h) (Or.inl ⟨by rfl, ?_⟩) (by assumption) ?_
      · intro W hSw
        (try dsimp only at hSw)
        have hor := HO.out; go_simp
      (try simp only [Act.put, List.setIfInBounds_toArray, List.set_cons_zero, List.set_cons_succ])
      refine wpAnyH_take (i := 5) (v := ?_) (by rw [List.getElem?_toArray]; rfl) (by kernel_rfl) (by kernel_rfl) (by kernel_rfl) (fun _ _ _ h => h) (Or.inl ⟨by rfl, ?_⟩) (by assumption) ?_
      rotate_left
      · intro W hSw
        (try dsimp only at hSw)
        go_simp
        (try with_reducible rfl)
      rotate_left
      (try simp only [Act.put, List.setIfInBounds_toArray, List.set_cons_zero, List.set_cons_succ])
      refine wpAnyH_take (i := 6) (v := .agg a.s.cells) (by rw [List.getElem?_toArray]; rfl) (by kernel_rfl) (by kernel_rfl) (by kernel_rfl) (fun _ _ _ h => h) (Or.inl ⟨by rfl, ?_⟩) (by assumption) ?_
      · intro W hSw
        (try dsimp only at hSw)
        exact rdS (.tmp 20) rfl _ rfl a.s (L1.keep hSw.1 (by omega)).sub
      (try simp only [Act.put, List.setIfInBounds_toArray, List.set_cons_zero, List.set_cons_succ])
      refine wpAnyH_take (i := 7) (v := .agg b.cells) (by rw [List.getElem?_toArray]; rfl) (by kernel_rfl) (by kernel_rfl) (by kernel_rfl) (fun _ _ _ h => h) (Or.inl ⟨by rfl, ?_⟩) (by assumption) ?_
      · intro W hSw
        (try dsimp only at hSw)
        exact rdD (.tmp 3) rfl _ rfl b (L2.keep hSw.1 (by omega)).lies
      (try simp only [Act.put, List.setIfInBounds_toArray, List.set_cons_zero, List.set_cons_succ])
      refine wpAnyH_ready (rs := [8]) (by kernel_rfl) (by simp) ?_
      refine AllReadyH.cons (by rw [List.getElem?_toArray]; rfl) (fun K hK => ?_) AllReadyH.nil
      go_simp
      refine (CA.out _).mono ?_; rintro e w6 ⟨rfl, b6⟩
      refine hK.out _ _ ?_ (fun hHeld => ?_)
      · exact ⟨hHeld.1.trans (Mod.of_below b6), (by obtain ⟨c, hc⟩ := hHeld.2; exact ⟨c, hc.keep (S := fun _ => False) (Mod.of_below b6) id⟩)⟩
      clear hK K
      (try simp only [Act.put, List.setIfInBounds_toArray, List.set_cons_zero, List.set_cons_succ])
      refine wpAnyH_take (i := 9) (v := .agg q.cells) (by rw [List.getElem?_toArray]; rfl) (by kernel_rfl) (by kernel_rfl) (by kernel_rfl) (fun _ _ _ h => h) (Or.inl ⟨by rfl, ?_⟩) (by assumption) ?_
      · intro W hSw
        (try dsimp only at hSw)
        rw [HM.out]; kernel_rfl
      (try simp only [Act.put, List.setIfInBounds_toArray, List.set_cons_zero, List.set_cons_succ])
      refine wpAnyH_ready (rs := [10]) (by kernel_rfl) (by simp) ?_
      refine AllReadyH.cons (by rw [List.getElem?_toArray]; rfl) (fun K hK => ?_) AllReadyH.nil
      rw [if_pos (by rfl)]
      obtain ⟨c, hc⟩ := hHeld.2; refine wp_storeL 26 (.tmp 4) (.tmp 24) rfl rfl w2.heap.size rfl q.cells rfl 26 c.cells hc iD rfl (one26 q) ?_; intro w7 m7 B7
      refine hK.out _ _ ?_ (fun hHeld => ?_)
      · exact ⟨hHeld.1.trans m7, q, B7⟩
      clear hK K
      (try simp only [Act.put, List.setIfInBounds_toArray, List.set_cons_zero, List.set_cons_succ])
      refine wpAnyH_take (i := 11) (v := ?_) (by rw [List.getElem?_toArray]; rfl) (by kernel_rfl) (by kernel_rfl) (by kernel_rfl) (fun _ _ _ h => h) (Or.inl ⟨by rfl, ?_⟩) (by assumption) ?_
      rotate_left
      · intro W hSw
        (try dsimp only at hSw)
        go_simp
        (try with_reducible rfl)
      rotate_left
      (try simp only [Act.put, List.setIfInBounds_toArray, List.set_cons_zero, List.set_cons_succ])
      refine wpAnyH_done (by kernel_rfl) ?_ _
      refine NoPanic.normal ?_
      go_wp2_with fail
      exact bodyPost_ret (v := .tuple #[.agg q.cells, .int .i64 0]) (res_row_val rfl _ _ _ 26 _ _ rfl B7 _ rfl uD rfl iD) rfl ⟨rfl, b05.trans (hHeld.1.below b05.size (fun k hk => by rw [hk]; exact hg3))⟩
    · have e1 : mrgV a b = .zero := by unfold mrgV; rw [hv, hv2]; rfl
      have e2 : mrgE a b = 60 := by unfold mrgE; rw [hv, hv2]; rfl
      rw [e1, e2]
      rw [hc] at C1
      rw [hc2] at C2
      clear hv hv2 hc hc2 e1 e2
      go_enter Try.func10, Try.ntmps10
      go_wp2_with (first
        | (refine bxDV rfl (.tmp 0) rfl a rfl ?_; intro w1 b1 B1)
        | (refine bxDV rfl (.tmp 1) rfl b rfl ?_; intro w2 b2 B2)
        | (refine alDV rfl rfl ?_; intro w3 b3 B3)
        | (refine ldD rfl (.tmp 2) rfl _ rfl a (Blk.lies ((B1.keep (S := fun _ => False) (Mod.of_below b2) id).keep (S := fun _ => False) (Mod.of_below b3) id)) ?_))
      refine (C1.out _).mono ?_
      rintro e w4 ⟨rfl, b4⟩
      have hg3 : w.heap.size ≤ w2.heap.size := Nat.le_trans b1.size b2.size
      have hg1 : w.heap.size < w1.heap.size := B1.lt
      have hg2 : w1.heap.size < w2.heap.size := B2.lt
      have K1 : Blk w4 w.heap.size 26 a.cells := ((B1.keep (S := fun _ => False) (Mod.of_below b2) id).keep (S := fun _ => False) (Mod.of_below b3) id).keep (S := fun _ => False) (Mod.of_below b4) id
      have K2 : Blk w4 w1.heap.size 26 b.cells := (B2.keep (S := fun _ => False) (Mod.of_below b3) id).keep (S := fun _ => False) (Mod.of_below b4) id
      have K3 : Blk w4 w2.heap.size 26 Dcl.zero.cells := B3.keep (S := fun _ => False) (Mod.of_below b4) id
      have b03 := below_seq (below_seq b1 b2) b3
      clear b1 B1 b2 B2 b3 B3
      go_wp2_with (refine ldDIf (by kernel_rfl) (.tmp 3) rfl _ rfl b K2.lies ?_)
      refine (C2.out _).mono ?_
      rintro e w5 ⟨rfl, b5⟩
      have L3 := K3.keep (S := fun _ => False) (Mod.of_below b5) id
      clear K1 K2 K3
      go_wp2_with (refine stD rfl (.tmp 4) (.tmp 14) rfl rfl _ rfl .zero rfl .zero L3 ?_; intro w7 m7 B7)
      exact bodyPost_ret (v := .tuple #[.agg Dcl.zero.cells, .int .i64 60]) (res_row_val rfl _ _ _ 26 _ _ rfl B7 _ rfl uD rfl iD) rfl ⟨rfl, (below_seq (below_seq b03 b4) b5).trans (m7.below (below_seq (below_seq b03 b4) b5).size (fun k hk => by rw [hk]; exact hg3))⟩
  · have e1 : mrgV a b = .zero := by unfold mrgV; rw [hv]; rfl
    have e2 : mrgE a b = 60 := by unfold mrgE; rw [hv]; rfl
    rw [e1, e2]
    rw [hc] at C1
    clear hv hc e1 e2
    go_enter Try.func10, Try.ntmps10
    go_wp2_with (first
      | (refine bxDV rfl (.tmp 0) rfl a rfl ?_; intro w1 b1 B1)
      | (refine bxDV rfl (.tmp 1) rfl b rfl ?_; intro w2 b2 B2)
      | (refine alDV rfl rfl ?_; intro w3 b3 B3)
      | (refine ldD rfl (.tmp 2) rfl _ rfl a (Blk.lies ((B1.keep (S := fun _ => False) (Mod.of_below b2) id).keep (S := fun _ => False) (Mod.of_below b3) id)) ?_))
    refine (C1.out _).mono ?_
    rintro e w4 ⟨rfl, b4⟩
    have hg3 : w.heap.size ≤ w2.heap.size := Nat.le_trans b1.size b2.size
    have hg1 : w.heap.size < w1.heap.size := B1.lt
    have hg2 : w1.heap.size < w2.heap.size := B2.lt
    have K1 : Blk w4 w.heap.size 26 a.cells := ((B1.keep (S := fun _ => False) (Mod.of_below b2) id).keep (S := fun _ => False) (Mod.of_below b3) id).keep (S := fun _ => False) (Mod.of_below b4) id
    have K2 : Blk w4 w1.heap.size 26 b.cells := (B2.keep (S := fun _ => False) (Mod.of_below b3) id).keep (S := fun _ => False) (Mod.of_below b4) id
    have K3 : Blk w4 w2.heap.size 26 Dcl.zero.cells := B3.keep (S := fun _ => False) (Mod.of_below b4) id
    have b03 := below_seq (below_seq b1 b2) b3
    clear b1 B1 b2 B2 b3 B3
    go_wp2_with (refine stD rfl (.tmp 4) (.tmp 14) rfl rfl _ rfl .zero rfl .zero K3 ?_; intro w7 m7 B7)
    exact bodyPost_ret (v := .tuple #[.agg Dcl.zero.cells, .int .i64 60]) (res_row_val rfl _ _ _ 26 _ _ rfl B7 _ rfl uD rfl iD) rfl ⟨rfl, (below_seq b03 b4).trans (m7.below (below_seq b03 b4).size (fun k hk => by rw [hk]; exact hg3))⟩
end Go.Proofs.Ythdihhfbkfenmaa
