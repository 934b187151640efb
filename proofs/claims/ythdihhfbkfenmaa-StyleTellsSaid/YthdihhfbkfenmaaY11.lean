/- Contracts of the document's CheckDecl and Resolve for layer 6. Condition: a declaration's bits are a 16-bit number. -/
import Derived.Test.YthdihhfbkfenmaaY6
import Derived.Test.YthdihhfbkfenmaaY8
import Derived.Test.YthdihhfbkfenmaaY10
namespace Go.Proofs.Ythdihhfbkfenmaa
open Go.ChangeShapes Go.WideShapes Go.ChangeAt Go.RowKit

set_option maxRecDepth 100000 in
set_option maxHeartbeats 2000000 in
theorem rchkd_any (d : Dcl) (w : World) (hn : d.n < 65536) :
    Calls Try.prog 15 #[.agg d.cells] w fun e w' => e = .returned (.int .i64 (chkD d)) ∧ Below w.heap.size w w' := by
  have CA : Hid (∀ w, Calls Try.prog 23 #[.agg Sty.zero.cells, .agg d.cells] w fun e w' => e = .returned (.agg (over .zero d).cells) ∧ Below w.heap.size w w') := fun w => rover_any .zero d w hn
  have CC := Lib.hid (fun w => rcheck_any d.s w)
  have H1 := Lib.hid (chkD_is d)
  have H2 := Lib.hid (chkD_eq d)
  have H3 := Lib.hid (chkD_high d)
  obtain ⟨o, ho⟩ : ∃ o, over .zero d = o := ⟨_, rfl⟩
  rw [ho] at CA H1 H2
  clear ho
  obtain ⟨c, hc⟩ : ∃ c, chkD d = c := ⟨_, rfl⟩
  rw [hc] at H1 H2 H3 ⊢
  clear hc
  by_cases h255 : d.n ≤ 255
  · have hz : (d.n : Int) ≤ 255 := by omega
    by_cases he : o = d.s
    · have e := H1.out h255 he
      have HNE := Lib.hid (fun w => neS o d.s w true (decide_eq_true he))
      simp only [Bool.not_true] at HNE
      rw [he] at e
      subst e
      clear H1 H2 H3 he
      go_enter Try.func15, Try.ntmps15
      go_wp2_with (refine bxDV rfl (.tmp 0) rfl d rfl ?_; intro w1 b1 B1)
      refine wp_region_noPanic ?_
      refine wp_region_held_drew (S := fun W => Below w1.heap.size w1 W) (by kernel_rfl) (below_drewN (Below.refl _ _) 1) (fun hHeld => ?_)
      refine wpAnyH_take (i := 0) (v := ?_) (by rw [List.getElem?_toArray]; rfl) (by kernel_rfl) (by kernel_rfl) (by kernel_rfl) (fun _ _ _ h => h) (Or.inl ⟨by rfl, ?_⟩) (by assumption) ?_
      rotate_left
      · intro W hSw
        (try dsimp only at hSw)
        go_simp
        (try with_reducible rfl)
      rotate_left
      (try simp only [Act.put, List.setIfInBounds_toArray, List.set_cons_zero, List.set_cons_succ])
      refine wpAnyH_take (i := 1) (v := ?_) (by rw [List.getElem?_toArray]; rfl) (by kernel_rfl) (by kernel_rfl) (by kernel_rfl) (fun _ _ _ h => h) (Or.inl ⟨by rfl, ?_⟩) (by assumption) ?_
      rotate_left
      · intro W hSw
        (try dsimp only at hSw)
        have cq : W.cell? ⟨w.heap.size, 0, none⟩ = some (.int .u16 d.n) := (B1.keep (S := fun _ => False) (Mod.of_below hSw) id).cell 0
        go_simp
        (try with_reducible rfl)
      rotate_left
      (try simp only [Act.put, List.setIfInBounds_toArray, List.set_cons_zero, List.set_cons_succ])
      refine wpAnyH_take (i := 2) (v := .bool false) (by rw [List.getElem?_toArray]; rfl) (by kernel_rfl) (by kernel_rfl) (by kernel_rfl) (fun _ _ _ h => h) (Or.inl ⟨by rfl, ?_⟩) (by assumption) ?_
      · intro W hSw
        (try dsimp only at hSw)
        go_simp
      (try simp only [Act.put, List.setIfInBounds_toArray, List.set_cons_zero, List.set_cons_succ])
      refine wpAnyH_take (i := 3) (v := ?_) (by rw [List.getElem?_toArray]; rfl) (by kernel_rfl) (by kernel_rfl) (by kernel_rfl) (fun _ _ _ h => h) (Or.inl ⟨by rfl, ?_⟩) (by assumption) ?_
      rotate_left
      · intro W hSw
        (try dsimp only at hSw)
        go_simp
        (try with_reducible rfl)
      rotate_left
      (try simp only [Act.put, List.setIfInBounds_toArray, List.set_cons_zero, List.set_cons_succ])
      refine wpAnyH_take (i := 4) (v := .agg Sty.zero.cells) (by rw [List.getElem?_toArray]; rfl) (by kernel_rfl) (by kernel_rfl) (by kernel_rfl) (fun _ _ _ h => h) (Or.inl ⟨by rfl, ?_⟩) (by assumption) ?_
      · intro W hSw
        (try dsimp only at hSw)
        kernel_rfl
      (try simp only [Act.put, List.setIfInBounds_toArray, List.set_cons_zero, List.set_cons_succ])
      refine wpAnyH_take (i := 5) (v := .agg d.cells) (by rw [List.getElem?_toArray]; rfl) (by kernel_rfl) (by kernel_rfl) (by kernel_rfl) (fun _ _ _ h => h) (Or.inl ⟨by rfl, ?_⟩) (by assumption) ?_
      · intro W hSw
        (try dsimp only at hSw)
        exact rdD (.tmp 1) rfl _ rfl d (B1.keep (S := fun _ => False) (Mod.of_below hSw) id).lies
      (try simp only [Act.put, List.setIfInBounds_toArray, List.set_cons_zero, List.set_cons_succ])
      refine wpAnyH_take (i := 7) (v := ?_) (by rw [List.getElem?_toArray]; rfl) (by kernel_rfl) (by kernel_rfl) (by kernel_rfl) (fun _ _ _ h => h) (Or.inl ⟨by rfl, ?_⟩) (by assumption) ?_
      rotate_left
      · intro W hSw
        (try dsimp only at hSw)
        go_simp
        (try with_reducible rfl)
      rotate_left
      (try simp only [Act.put, List.setIfInBounds_toArray, List.set_cons_zero, List.set_cons_succ])
      refine wpAnyH_take (i := 8) (v := .agg d.s.cells) (by rw [List.getElem?_toArray]; rfl) (by kernel_rfl) (by kernel_rfl) (by kernel_rfl) (fun _ _ _ h => h) (Or.inl ⟨by rfl, ?_⟩) (by assumption) ?_
      · intro W hSw
        (try dsimp only at hSw)
        exact rdS (.tmp 10) rfl _ rfl d.s (B1.keep (S := fun _ => False) (Mod.of_below hSw) id).sub
      (try simp only [Act.put, List.setIfInBounds_toArray, List.set_cons_zero, List.set_cons_succ])
      refine wpAnyH_ready (rs := [6]) (by kernel_rfl) (by simp) ?_
      refine AllReadyH.cons (by rw [List.getElem?_toArray]; rfl) (fun K hK => ?_) AllReadyH.nil
      go_simp
      refine (CA.out _).mono ?_; rintro e w2 ⟨rfl, b2⟩
      refine hK.out _ _ ?_ (fun hHeld => ?_)
      · exact below_seq hHeld b2
      clear hK K
      (try simp only [Act.put, List.setIfInBounds_toArray, List.set_cons_zero, List.set_cons_succ])
      refine wpAnyH_take (i := 9) (v := .bool false) (by rw [List.getElem?_toArray]; rfl) (by kernel_rfl) (by kernel_rfl) (by kernel_rfl) (fun _ _ _ h => h) (Or.inl ⟨by rfl, ?_⟩) (by assumption) ?_
      · intro W hSw
        (try dsimp only at hSw)
        have hne := HNE.out; go_simp
      (try simp only [Act.put, List.setIfInBounds_toArray, List.set_cons_zero, List.set_cons_succ])
      refine wpAnyH_take (i := 10) (v := ?_) (by rw [List.getElem?_toArray]; rfl) (by kernel_rfl) (by kernel_rfl) (by kernel_rfl) (fun _ _ _ h => h) (Or.inl ⟨by rfl, ?_⟩) (by assumption) ?_
      rotate_left
      · intro W hSw
        (try dsimp only at hSw)
        go_simp
        (try with_reducible rfl)
      rotate_left
      (try simp only [Act.put, List.setIfInBounds_toArray, List.set_cons_zero, List.set_cons_succ])
      refine wpAnyH_done (by kernel_rfl) ?_ _
      refine NoPanic.normal ?_
      go_wp2_with (refine ldS rfl (.tmp 14) rfl _ rfl d.s (B1.keep (S := fun _ => False) (Mod.of_below hHeld) id).sub ?_)
      refine (CC.out _).mono ?_
      rintro e w4 ⟨rfl, b4⟩
      go_wp2_with fail
      go_ret
      exact ⟨rfl, below_seq (below_seq b1 hHeld) b4⟩
    · have e := H2.out he
      have HNE := Lib.hid (fun w => neS o d.s w false (decide_eq_false he))
      simp only [Bool.not_false] at HNE
      subst e
      clear H1 H2 H3 he
      go_enter Try.func15, Try.ntmps15
      go_wp2_with (refine bxDV rfl (.tmp 0) rfl d rfl ?_; intro w1 b1 B1)
      refine wp_region_noPanic ?_
      refine wp_region_held_drew (S := fun W => Below w1.heap.size w1 W) (by kernel_rfl) (below_drewN (Below.refl _ _) 1) (fun hHeld => ?_)
      refine wpAnyH_take (i := 0) (v := ?_) (by rw [List.getElem?_toArray]; rfl) (by kernel_rfl) (by kernel_rfl) (by kernel_rfl) (fun _ _ _ h => h) (Or.inl ⟨by rfl, ?_⟩) (by assumption) ?_
      rotate_left
      · intro W hSw
        (try dsimp only at hSw)
        go_simp
        (try with_reducible rfl)
      rotate_left
      (try simp only [Act.put, List.setIfInBounds_toArray, List.set_cons_zero, List.set_cons_succ])
      refine wpAnyH_take (i := 1) (v := ?_) (by rw [List.getElem?_toArray]; rfl) (by kernel_rfl) (by kernel_rfl) (by kernel_rfl) (fun _ _ _ h => h) (Or.inl ⟨by rfl, ?_⟩) (by assumption) ?_
      rotate_left
      · intro W hSw
        (try dsimp only at hSw)
        have cq : W.cell? ⟨w.heap.size, 0, none⟩ = some (.int .u16 d.n) := (B1.keep (S := fun _ => False) (Mod.of_below hSw) id).cell 0
        go_simp
        (try with_reducible rfl)
      rotate_left
      (try simp only [Act.put, List.setIfInBounds_toArray, List.set_cons_zero, List.set_cons_succ])
      refine wpAnyH_take (i := 2) (v := .bool false) (by rw [List.getElem?_toArray]; rfl) (by kernel_rfl) (by kernel_rfl) (by kernel_rfl) (fun _ _ _ h => h) (Or.inl ⟨by rfl, ?_⟩) (by assumption) ?_
      · intro W hSw
        (try dsimp only at hSw)
        go_simp
      (try simp only [Act.put, List.setIfInBounds_toArray, List.set_cons_zero, List.set_cons_succ])
      refine wpAnyH_take (i := 3) (v := ?_) (by rw [List.getElem?_toArray]; rfl) (by kernel_rfl) (by kernel_rfl) (by kernel_rfl) (fun _ _ _ h => h) (Or.inl ⟨by rfl, ?_⟩) (by assumption) ?_
      rotate_left
      · intro W hSw
        (try dsimp only at hSw)
        go_simp
        (try with_reducible rfl)
      rotate_left
      (try simp only [Act.put, List.setIfInBounds_toArray, List.set_cons_zero, List.set_cons_succ])
      refine wpAnyH_take (i := 4) (v := .agg Sty.zero.cells) (by rw [List.getElem?_toArray]; rfl) (by kernel_rfl) (by kernel_rfl) (by kernel_rfl) (fun _ _ _ h => h) (Or.inl ⟨by rfl, ?_⟩) (by assumption) ?_
      · intro W hSw
        (try dsimp only at hSw)
        kernel_rfl
      (try simp only [Act.put, List.setIfInBounds_toArray, List.set_cons_zero, List.set_cons_succ])
      refine wpAnyH_take (i := 5) (v := .agg d.cells) (by rw [List.getElem?_toArray]; rfl) (by kernel_rfl) (by kernel_rfl) (by kernel_rfl) (fun _ _ _ h => h) (Or.inl ⟨by rfl, ?_⟩) (by assumption) ?_
      · intro W hSw
        (try dsimp only at hSw)
        exact rdD (.tmp 1) rfl _ rfl d (B1.keep (S := fun _ => False) (Mod.of_below hSw) id).lies
      (try simp only [Act.put, List.setIfInBounds_toArray, List.set_cons_zero, List.set_cons_succ])
      refine wpAnyH_take (i := 7) (v := ?_) (by rw [List.getElem?_toArray]; rfl) (by kernel_rfl) (by kernel_rfl) (by kernel_rfl) (fun _ _ _ h => h) (Or.inl ⟨by rfl, ?_⟩) (by assumption) ?_
      rotate_left
      · intro W hSw
        (try dsimp only at hSw)
        go_simp
        (try with_reducible rfl)
      rotate_left
      (try simp only [Act.put, List.setIfInBounds_toArray, List.set_cons_zero, List.set_cons_succ])
      refine wpAnyH_take (i := 8) (v := .agg d.s.cells) (by rw [List.getElem?_toArray]; rfl) (by kernel_rfl) (by kernel_rfl) (by kernel_rfl) (fun _ _ _ h => h) (Or.inl ⟨by rfl, ?_⟩) (by assumption) ?_
      · intro W hSw
        (try dsimp only at hSw)
        exact rdS (.tmp 10) rfl _ rfl d.s (B1.keep (S := fun _ => False) (Mod.of_below hSw) id).sub
      (try simp only [Act.put, List.setIfInBounds_toArray, List.set_cons_zero, List.set_cons_succ])
      refine wpAnyH_ready (rs := [6]) (by kernel_rfl) (by simp) ?_
      refine AllReadyH.cons (by rw [List.getElem?_toArray]; rfl) (fun K hK => ?_) AllReadyH.nil
      go_simp
      refine (CA.out _).mono ?_; rintro e w2 ⟨rfl, b2⟩
      refine hK.out _ _ ?_ (fun hHeld => ?_)
      · exact below_seq hHeld b2
      clear hK K
      (try simp only [Act.put, List.setIfInBounds_toArray, List.set_cons_zero, List.set_cons_succ])
      refine wpAnyH_take (i := 9) (v := .bool true) (by rw [List.getElem?_toArray]; rfl) (by kernel_rfl) (by kernel_rfl) (by kernel_rfl) (fun _ _ _ h => h) (Or.inl ⟨by rfl, ?_⟩) (by assumption) ?_
      · intro W hSw
        (try dsimp only at hSw)
        have hne := HNE.out; go_simp
      (try simp only [Act.put, List.setIfInBounds_toArray, List.set_cons_zero, List.set_cons_succ])
      refine wpAnyH_take (i := 10) (v := ?_) (by rw [List.getElem?_toArray]; rfl) (by kernel_rfl) (by kernel_rfl) (by kernel_rfl) (fun _ _ _ h => h) (Or.inl ⟨by rfl, ?_⟩) (by assumption) ?_
      rotate_left
      · intro W hSw
        (try dsimp only at hSw)
        go_simp
        (try with_reducible rfl)
      rotate_left
      (try simp only [Act.put, List.setIfInBounds_toArray, List.set_cons_zero, List.set_cons_succ])
      refine wpAnyH_done (by kernel_rfl) ?_ _
      refine NoPanic.normal ?_
      go_wp2_with fail
      go_ret
      exact ⟨rfl, below_seq b1 hHeld⟩
  · have e := H3.out h255
    have hz : 255 < (d.n : Int) := by omega
    subst e
    clear H1 H2 H3
    go_enter Try.func15, Try.ntmps15
    go_wp2_with (refine bxDV rfl (.tmp 0) rfl d rfl ?_; intro w1 b1 B1)
    refine wp_region_noPanic ?_
    refine wp_region_held_drew (S := fun W => Below w1.heap.size w1 W) (by kernel_rfl) (below_drewN (Below.refl _ _) 1) (fun hHeld => ?_)
    refine wpAnyH_take (i := 0) (v := ?_) (by rw [List.getElem?_toArray]; rfl) (by kernel_rfl) (by kernel_rfl) (by kernel_rfl) (fun _ _ _ h => h) (Or.inl ⟨by rfl, ?_⟩) (by assumption) ?_
    rotate_left
    · intro W hSw
      (try dsimp only at hSw)
      go_simp
      (try with_reducible rfl)
    rotate_left
    (try simp only [Act.put, List.setIfInBounds_toArray, List.set_cons_zero, List.set_cons_succ])
    refine wpAnyH_take (i := 1) (v := ?_) (by rw [List.getElem?_toArray]; rfl) (by kernel_rfl) (by kernel_rfl) (by kernel_rfl) (fun _ _ _ h => h) (Or.inl ⟨by rfl, ?_⟩) (by assumption) ?_
    rotate_left
    · intro W hSw
      (try dsimp only at hSw)
      have cq : W.cell? ⟨w.heap.size, 0, none⟩ = some (.int .u16 d.n) := (B1.keep (S := fun _ => False) (Mod.of_below hSw) id).cell 0
      go_simp
      (try with_reducible rfl)
    rotate_left
    (try simp only [Act.put, List.setIfInBounds_toArray, List.set_cons_zero, List.set_cons_succ])
    refine wpAnyH_take (i := 2) (v := .bool true) (by rw [List.getElem?_toArray]; rfl) (by kernel_rfl) (by kernel_rfl) (by kernel_rfl) (fun _ _ _ h => h) (Or.inl ⟨by rfl, ?_⟩) (by assumption) ?_
    · intro W hSw
      (try dsimp only at hSw)
      go_simp
    (try simp only [Act.put, List.setIfInBounds_toArray, List.set_cons_zero, List.set_cons_succ])
    refine wpAnyH_take (i := 3) (v := ?_) (by rw [List.getElem?_toArray]; rfl) (by kernel_rfl) (by kernel_rfl) (by kernel_rfl) (fun _ _ _ h => h) (Or.inl ⟨by rfl, ?_⟩) (by assumption) ?_
    rotate_left
    · intro W hSw
      (try dsimp only at hSw)
      go_simp
      (try with_reducible rfl)
    rotate_left
    (try simp only [Act.put, List.setIfInBounds_toArray, List.set_cons_zero, List.set_cons_succ])
    refine wpAnyH_take (i := 4) (v := undef) (by rw [List.getElem?_toArray]; rfl) (by kernel_rfl) (by kernel_rfl) (by kernel_rfl) (fun _ _ _ h => h) (Or.inr ⟨by kernel_rfl, rfl⟩) (by assumption) ?_
    (try simp only [Act.put, List.setIfInBounds_toArray, List.set_cons_zero, List.set_cons_succ])
    refine wpAnyH_take (i := 5) (v := undef) (by rw [List.getElem?_toArray]; rfl) (by kernel_rfl) (by kernel_rfl) (by kernel_rfl) (fun _ _ _ h => h) (Or.inr ⟨by kernel_rfl, rfl⟩) (by assumption) ?_
    (try simp only [Act.put, List.setIfInBounds_toArray, List.set_cons_zero, List.set_cons_succ])
    refine wpAnyH_take (i := 6) (v := undef) (by rw [List.getElem?_toArray]; rfl) (by kernel_rfl) (by kernel_rfl) (by kernel_rfl) (fun _ _ _ h => h) (Or.inr ⟨by kernel_rfl, rfl⟩) (by assumption) ?_
    (try simp only [Act.put, List.setIfInBounds_toArray, List.set_cons_zero, List.set_cons_succ])
    refine wpAnyH_take (i := 7) (v := undef) (by rw [List.getElem?_toArray]; rfl) (by kernel_rfl) (by kernel_rfl) (by kernel_rfl) (fun _ _ _ h => h) (Or.inr ⟨by kernel_rfl, rfl⟩) (by assumption) ?_
    (try simp only [Act.put, List.setIfInBounds_toArray, List.set_cons_zero, List.set_cons_succ])
    refine wpAnyH_take (i := 8) (v := undef) (by rw [List.getElem?_toArray]; rfl) (by kernel_rfl) (by kernel_rfl) (by kernel_rfl) (fun _ _ _ h => h) (Or.inr ⟨by kernel_rfl, rfl⟩) (by assumption) ?_
    (try simp only [Act.put, List.setIfInBounds_toArray, List.set_cons_zero, List.set_cons_succ])
    refine wpAnyH_take (i := 9) (v := undef) (by rw [List.getElem?_toArray]; rfl) (by kernel_rfl) (by kernel_rfl) (by kernel_rfl) (fun _ _ _ h => h) (Or.inr ⟨by kernel_rfl, rfl⟩) (by assumption) ?_
    (try simp only [Act.put, List.setIfInBounds_toArray, List.set_cons_zero, List.set_cons_succ])
    refine wpAnyH_take (i := 10) (v := ?_) (by rw [List.getElem?_toArray]; rfl) (by kernel_rfl) (by kernel_rfl) (by kernel_rfl) (fun _ _ _ h => h) (Or.inl ⟨by rfl, ?_⟩) (by assumption) ?_
    rotate_left
    · intro W hSw
      (try dsimp only at hSw)
      go_simp
      (try with_reducible rfl)
    rotate_left
    (try simp only [Act.put, List.setIfInBounds_toArray, List.set_cons_zero, List.set_cons_succ])
    refine wpAnyH_done (by kernel_rfl) ?_ _
    refine NoPanic.normal ?_
    go_wp2_with fail
    go_ret
    exact ⟨rfl, below_seq b1 hHeld⟩

set_option maxRecDepth 100000 in
set_option maxHeartbeats 2000000 in
theorem rresolve_any (s : Sty) (d : Dcl) (w : World) (hn : d.n < 65536) :
    Calls Try.prog 9 #[.agg s.cells, .agg d.cells] w fun e w' => e = .returned (.tuple #[.agg (resV s d).cells, .int .i64 (resE s d)]) ∧ Below w.heap.size w w' := by
  have CS := Lib.hid (fun w => rcheck_any s w)
  have CD := Lib.hid (fun w => rchkd_any d w hn)
  have CA := Lib.hid (fun w => rover_any s d w hn)
  rcases chk_cases s with ⟨hv, hc⟩ | ⟨hv, hc⟩
  · rcases chkD_cases d with ⟨hv2, hc2⟩ | ⟨hv2, hc2⟩
    · have e1 : resV s d = over s d := by unfold resV; rw [hv, hv2]; rfl
      have e2 : resE s d = 0 := by unfold resE; rw [hv, hv2]; rfl
      rw [e1, e2]
      rw [hc] at CS
      rw [hc2] at CD
      clear hv hv2 hc hc2 e1 e2
      obtain ⟨o, ho⟩ : ∃ o, over s d = o := ⟨_, rfl⟩
      rw [ho] at CA ⊢
      clear ho
      go_enter Try.func9, Try.ntmps9
      go_wp2_with (first
        | (refine bxSV rfl (.tmp 0) rfl s rfl ?_; intro w1 b1 B1)
        | (refine bxDV rfl (.tmp 1) rfl d rfl ?_; intro w2 b2 B2)
        | (refine alSV rfl rfl ?_; intro w3 b3 B3)
        | (refine ldS rfl (.tmp 2) rfl _ rfl s (Blk.lies ((B1.keep (S := fun _ => False) (Mod.of_below b2) id).keep (S := fun _ => False) (Mod.of_below b3) id)) ?_))
      refine (CS.out _).mono ?_
      rintro e w4 ⟨rfl, b4⟩
      have hg3 : w.heap.size ≤ w2.heap.size := Nat.le_trans b1.size b2.size
      have K1 : Blk w4 w.heap.size 23 s.cells := ((B1.keep (S := fun _ => False) (Mod.of_below b2) id).keep (S := fun _ => False) (Mod.of_below b3) id).keep (S := fun _ => False) (Mod.of_below b4) id
      have K2 : Blk w4 w1.heap.size 26 d.cells := (B2.keep (S := fun _ => False) (Mod.of_below b3) id).keep (S := fun _ => False) (Mod.of_below b4) id
      have K3 : Blk w4 w2.heap.size 23 Sty.zero.cells := B3.keep (S := fun _ => False) (Mod.of_below b4) id
      have b03 := below_seq (below_seq b1 b2) b3
      clear b1 B1 b2 B2 b3 B3
      go_wp2_with (refine ldDIf (by kernel_rfl) (.tmp 3) rfl _ rfl d K2.lies ?_)
      refine (CD.out _).mono ?_
      rintro e w5 ⟨rfl, b5⟩
      have L1 := K1.keep (S := fun _ => False) (Mod.of_below b5) id
      have L2 := K2.keep (S := fun _ => False) (Mod.of_below b5) id
      have L3 := K3.keep (S := fun _ => False) (Mod.of_below b5) id
      clear K1 K2 K3
      go_wp2_with (first
        | (refine ldS rfl (.tmp 2) rfl _ rfl s L1.lies ?_)
        | (refine ldD rfl (.tmp 3) rfl _ rfl d L2.lies ?_))
      refine (CA.out _).mono ?_
      rintro e w6 ⟨rfl, b6⟩
      have M3 := L3.keep (S := fun _ => False) (Mod.of_below b6) id
      clear L1 L2 L3
      go_wp2_with (refine stS rfl (.tmp 4) (.tmp 17) rfl rfl _ rfl o rfl .zero M3 ?_; intro w7 m7 B7)
      exact bodyPost_ret (v := .tuple #[.agg o.cells, .int .i64 0]) (res_row_val rfl _ _ _ 23 _ _ rfl B7 _ rfl uS rfl iS) rfl ⟨rfl, (below_seq (below_seq b03 b4) (below_seq b5 b6)).trans (m7.below (below_seq (below_seq b03 b4) (below_seq b5 b6)).size (fun k hk => by rw [hk]; exact hg3))⟩
    · have e1 : resV s d = .zero := by unfold resV; rw [hv, hv2]; rfl
      have e2 : resE s d = 60 := by unfold resE; rw [hv, hv2]; rfl
      rw [e1, e2]
      rw [hc] at CS
      rw [hc2] at CD
      clear hv hv2 hc hc2 e1 e2
      go_enter Try.func9, Try.ntmps9
      go_wp2_with (first
        | (refine bxSV rfl (.tmp 0) rfl s rfl ?_; intro w1 b1 B1)
        | (refine bxDV rfl (.tmp 1) rfl d rfl ?_; intro w2 b2 B2)
        | (refine alSV rfl rfl ?_; intro w3 b3 B3)
        | (refine ldS rfl (.tmp 2) rfl _ rfl s (Blk.lies ((B1.keep (S := fun _ => False) (Mod.of_below b2) id).keep (S := fun _ => False) (Mod.of_below b3) id)) ?_))
      refine (CS.out _).mono ?_
      rintro e w4 ⟨rfl, b4⟩
      have hg3 : w.heap.size ≤ w2.heap.size := Nat.le_trans b1.size b2.size
      have K1 : Blk w4 w.heap.size 23 s.cells := ((B1.keep (S := fun _ => False) (Mod.of_below b2) id).keep (S := fun _ => False) (Mod.of_below b3) id).keep (S := fun _ => False) (Mod.of_below b4) id
      have K2 : Blk w4 w1.heap.size 26 d.cells := (B2.keep (S := fun _ => False) (Mod.of_below b3) id).keep (S := fun _ => False) (Mod.of_below b4) id
      have K3 : Blk w4 w2.heap.size 23 Sty.zero.cells := B3.keep (S := fun _ => False) (Mod.of_below b4) id
      have b03 := below_seq (below_seq b1 b2) b3
      clear b1 B1 b2 B2 b3 B3
      go_wp2_with (refine ldDIf (by kernel_rfl) (.tmp 3) rfl _ rfl d K2.lies ?_)
      refine (CD.out _).mono ?_
      rintro e w5 ⟨rfl, b5⟩
      have L3 := K3.keep (S := fun _ => False) (Mod.of_below b5) id
      clear K1 K2 K3
      go_wp2_with (refine stS rfl (.tmp 4) (.tmp 14) rfl rfl _ rfl .zero rfl .zero L3 ?_; intro w7 m7 B7)
      exact bodyPost_ret (v := .tuple #[.agg Sty.zero.cells, .int .i64 60]) (res_row_val rfl _ _ _ 23 _ _ rfl B7 _ rfl uS rfl iS) rfl ⟨rfl, (below_seq (below_seq b03 b4) b5).trans (m7.below (below_seq (below_seq b03 b4) b5).size (fun k hk => by rw [hk]; exact hg3))⟩
  · have e1 : resV s d = .zero := by unfold resV; rw [hv]; rfl
    have e2 : resE s d = 60 := by unfold resE; rw [hv]; rfl
    rw [e1, e2]
    rw [hc] at CS
    clear hv hc e1 e2
    go_enter Try.func9, Try.ntmps9
    go_wp2_with (first
      | (refine bxSV rfl (.tmp 0) rfl s rfl ?_; intro w1 b1 B1)
      | (refine bxDV rfl (.tmp 1) rfl d rfl ?_; intro w2 b2 B2)
      | (refine alSV rfl rfl ?_; intro w3 b3 B3)
      | (refine ldS rfl (.tmp 2) rfl _ rfl s (Blk.lies ((B1.keep (S := fun _ => False) (Mod.of_below b2) id).keep (S := fun _ => False) (Mod.of_below b3) id)) ?_))
    refine (CS.out _).mono ?_
    rintro e w4 ⟨rfl, b4⟩
    have hg3 : w.heap.size ≤ w2.heap.size := Nat.le_trans b1.size b2.size
    have K1 : Blk w4 w.heap.size 23 s.cells := ((B1.keep (S := fun _ => False) (Mod.of_below b2) id).keep (S := fun _ => False) (Mod.of_below b3) id).keep (S := fun _ => False) (Mod.of_below b4) id
    have K2 : Blk w4 w1.heap.size 26 d.cells := (B2.keep (S := fun _ => False) (Mod.of_below b3) id).keep (S := fun _ => False) (Mod.of_below b4) id
    have K3 : Blk w4 w2.heap.size 23 Sty.zero.cells := B3.keep (S := fun _ => False) (Mod.of_below b4) id
    have b03 := below_seq (below_seq b1 b2) b3
    clear b1 B1 b2 B2 b3 B3
    go_wp2_with (refine stS rfl (.tmp 4) (.tmp 14) rfl rfl _ rfl .zero rfl .zero K3 ?_; intro w7 m7 B7)
    exact bodyPost_ret (v := .tuple #[.agg Sty.zero.cells, .int .i64 60]) (res_row_val rfl _ _ _ 23 _ _ rfl B7 _ rfl uS rfl iS) rfl ⟨rfl, (below_seq b03 b4).trans (m7.below (below_seq b03 b4).size (fun k hk => by rw [hk]; exact hg3))⟩
end Go.Proofs.Ythdihhfbkfenmaa
