/- The walk of StyleTells. Condition: bits are 16-bit numbers. -/
import Derived.Test.YthdihhfbkfenmaaY12
import Derived.Test.YthdihhfbkfenmaaYHead
namespace Go.Proofs.Ythdihhfbkfenmaa
open Go.ChangeShapes Go.WideShapes Go.ChangeAt Go.RowKit

set_option maxRecDepth 100000 in
set_option maxHeartbeats 8000000 in
theorem tells_any (s : Sty) (a b : Dcl) (w : World) (ha : a.n < 65536) (hb : b.n < 65536) :
    Calls Try.prog 3 #[.agg s.cells, .agg a.cells, .agg b.cells] w fun e w' => e = .returned (.bool true) ∧ Below w.heap.size w w' := by
  have CH := Lib.hid head_any
  have C1 := Lib.hid (fun w => ycheck_any s w)
  have C2 := Lib.hid (fun w => rcheck_any s w)
  have C3 := Lib.hid (fun w => ychkd_any a w ha)
  have C4 := Lib.hid (fun w => rchkd_any a w ha)
  have C5 := Lib.hid yfirst_any
  have C6 := Lib.hid rfirst_any
  have D1 := Lib.hid (fun w => yresolve_any s a w ha)
  have D2 := Lib.hid (fun w => rresolve_any s a w ha)
  have D3 := Lib.hid (fun w => ymerge_any a b w ha hb)
  have D4 := Lib.hid (fun w => rmerge_any a b w ha hb)
  have HF := Lib.hid (fun w => eqS .first .first w true (decide_eq_true rfl))
  obtain ⟨cs, hcs⟩ : ∃ c, chk s = c := ⟨_, rfl⟩
  obtain ⟨ca, hca⟩ : ∃ c, chkD a = c := ⟨_, rfl⟩
  obtain ⟨x, hx⟩ : ∃ x, resV s a = x := ⟨_, rfl⟩
  obtain ⟨xe, hxe⟩ : ∃ x, resE s a = x := ⟨_, rfl⟩
  obtain ⟨u, hu⟩ : ∃ x, mrgV a b = x := ⟨_, rfl⟩
  obtain ⟨ue, hue⟩ : ∃ x, mrgE a b = x := ⟨_, rfl⟩
  rw [hcs] at C1 C2
  rw [hca] at C3 C4
  rw [hx, hxe] at D1 D2
  rw [hu, hue] at D3 D4
  have HX := Lib.hid (fun w => eqS x x w true (decide_eq_true rfl))
  have HU := Lib.hid (fun w => eqD u u w true (decide_eq_true rfl))
  clear hcs hca hx hxe hu hue ha hb
  go_enter Try.func3, Try.ntmps3
  go_wp2_with (first
    | (refine bxSV rfl (.tmp 0) rfl s rfl ?_; intro w1 b1 B1)
    | (refine bxDV rfl (.tmp 1) rfl a rfl ?_; intro w2 b2 B2)
    | (refine bxDV rfl (.tmp 2) rfl b rfl ?_; intro w3 b3 B3; have hK3 := ((Kn.nil w).cons b1 B1).cons b2 B2 |>.cons b3 B3)
    | (refine ldS rfl (.tmp 3) rfl _ rfl s (hK3.at_ 2 rfl).lies ?_)
    | (refine ldD rfl (.tmp 4) rfl _ rfl a (hK3.at_ 1 rfl).lies ?_))
  refine (D1.out _).mono ?_
  rintro e w4 ⟨rfl, b4⟩
  go_wp2_with (first
    | (refine nwS rfl rfl 7 rfl rfl (.tmp 19) rfl rfl x (fun _ => rfl) (fun _ => rfl) ?_; intro w5 b5 B5; have hK5 := (hK3.below b4).cons b5 B5)
    | (refine ldS rfl (.tmp 3) rfl _ rfl s (hK5.at_ 3 rfl).lies ?_)
    | (refine ldD rfl (.tmp 4) rfl _ rfl a (hK5.at_ 2 rfl).lies ?_))
  refine (D2.out _).mono ?_
  rintro e w6 ⟨rfl, b6⟩
  go_wp2_with (first
    | (refine nwS rfl rfl 9 rfl rfl (.tmp 25) rfl rfl x (fun _ => rfl) (fun _ => rfl) ?_; intro w7 b7 B7; have hK7 := (hK5.below b6).cons b7 B7)
    | (refine ldD rfl (.tmp 4) rfl _ rfl a (hK7.at_ 3 rfl).lies ?_)
    | (refine ldD rfl (.tmp 5) rfl _ rfl b (hK7.at_ 2 rfl).lies ?_))
  refine (D3.out _).mono ?_
  rintro e w8 ⟨rfl, b8⟩
  go_wp2_with (first
    | (refine nwD rfl rfl 11 rfl rfl (.tmp 31) rfl rfl u (fun _ => rfl) (fun _ => rfl) ?_; intro w9 b9 B9; have hK9 := (hK7.below b8).cons b9 B9)
    | (refine ldD rfl (.tmp 4) rfl _ rfl a (hK9.at_ 4 rfl).lies ?_)
    | (refine ldD rfl (.tmp 5) rfl _ rfl b (hK9.at_ 3 rfl).lies ?_))
  refine (D4.out _).mono ?_
  rintro e w10 ⟨rfl, b10⟩
  go_wp2_with (refine nwD rfl rfl 13 rfl rfl (.tmp 37) rfl rfl u (fun _ => rfl) (fun _ => rfl) ?_; intro w11 b11 B11)
  have hK := (hK9.below b10).cons b11 B11
  have bel := below_seq (below_seq (below_seq (below_seq (below_seq (below_seq (below_seq (below_seq (below_seq (below_seq b1 b2) b3) b4) b5) b6) b7) b8) b9) b10) b11
  clear b1 B1 b2 B2 b3 B3 b4 b5 B5 b6 b7 B7 b8 b9 B9 b10 b11 B11 hK3 hK5 hK7 hK9
  refine region_go (by kernel_rfl) (fun R hR => ?_)
  refine AllS.take (i := 0) (v := .agg s.cells) (by rw [List.getElem?_toArray]; rfl) (by kernel_rfl) (by kernel_rfl) (by kernel_rfl) (KeepsIf.read (by rfl) (fun W hSw => ?_)) ?_
  · (try dsimp only at hSw)
    exact rdS (.tmp 3) rfl _ rfl s (((hK.below hSw).at_ 6 rfl).lies)
  (try simp only [Act.put, List.setIfInBounds_toArray, List.set_cons_zero, List.set_cons_succ])
  refine AllS.take (i := 1) (v := .int .i64 cs) (by rw [List.getElem?_toArray]; rfl) (by kernel_rfl) (by kernel_rfl) (by kernel_rfl) (KeepsIf.call 12 #[.agg s.cells] (by kernel_rfl) (fun W => ?_) (fun W hSw => ?_)) ?_
  · go_simp
  · exact (C1.out W).mono (fun e w' h => ⟨h.1, below_seq hSw h.2⟩)
  (try simp only [Act.put, List.setIfInBounds_toArray, List.set_cons_zero, List.set_cons_succ])
  refine AllS.take (i := 2) (v := .agg s.cells) (by rw [List.getElem?_toArray]; rfl) (by kernel_rfl) (by kernel_rfl) (by kernel_rfl) (KeepsIf.read (by rfl) (fun W hSw => ?_)) ?_
  · (try dsimp only at hSw)
    exact rdS (.tmp 3) rfl _ rfl s (((hK.below hSw).at_ 6 rfl).lies)
  (try simp only [Act.put, List.setIfInBounds_toArray, List.set_cons_zero, List.set_cons_succ])
  refine AllS.take (i := 3) (v := .int .i64 cs) (by rw [List.getElem?_toArray]; rfl) (by kernel_rfl) (by kernel_rfl) (by kernel_rfl) (KeepsIf.call 13 #[.agg s.cells] (by kernel_rfl) (fun W => ?_) (fun W hSw => ?_)) ?_
  · go_simp
  · exact (C2.out W).mono (fun e w' h => ⟨h.1, below_seq hSw h.2⟩)
  (try simp only [Act.put, List.setIfInBounds_toArray, List.set_cons_zero, List.set_cons_succ])
  refine AllS.take (i := 4) (v := .bool true) (by rw [List.getElem?_toArray]; rfl) (by kernel_rfl) (by kernel_rfl) (by kernel_rfl) (KeepsIf.read (by rfl) (fun W hSw => ?_)) ?_
  · (try dsimp only at hSw)
    go_simp
  (try simp only [Act.put, List.setIfInBounds_toArray, List.set_cons_zero, List.set_cons_succ])
  refine AllS.take (i := 5) (v := ?_) (by rw [List.getElem?_toArray]; rfl) (by kernel_rfl) (by kernel_rfl) (by kernel_rfl) (KeepsIf.read (by rfl) ?_) ?_
  rotate_left
  · intro W hSw
    (try dsimp only at hSw)
    go_simp
    (try with_reducible rfl)
  rotate_left
  (try simp only [Act.put, List.setIfInBounds_toArray, List.set_cons_zero, List.set_cons_succ])
  refine AllS.take (i := 6) (v := .agg a.cells) (by rw [List.getElem?_toArray]; rfl) (by kernel_rfl) (by kernel_rfl) (by kernel_rfl) (KeepsIf.read (by rfl) (fun W hSw => ?_)) ?_
  · (try dsimp only at hSw)
    exact rdD (.tmp 4) rfl _ rfl a (((hK.below hSw).at_ 5 rfl).lies)
  (try simp only [Act.put, List.setIfInBounds_toArray, List.set_cons_zero, List.set_cons_succ])
  refine AllS.take (i := 7) (v := .int .i64 ca) (by rw [List.getElem?_toArray]; rfl) (by kernel_rfl) (by kernel_rfl) (by kernel_rfl) (KeepsIf.call 14 #[.agg a.cells] (by kernel_rfl) (fun W => ?_) (fun W hSw => ?_)) ?_
  · go_simp
  · exact (C3.out W).mono (fun e w' h => ⟨h.1, below_seq hSw h.2⟩)
  (try simp only [Act.put, List.setIfInBounds_toArray, List.set_cons_zero, List.set_cons_succ])
  refine AllS.take (i := 8) (v := .agg a.cells) (by rw [List.getElem?_toArray]; rfl) (by kernel_rfl) (by kernel_rfl) (by kernel_rfl) (KeepsIf.read (by rfl) (fun W hSw => ?_)) ?_
  · (try dsimp only at hSw)
    exact rdD (.tmp 4) rfl _ rfl a (((hK.below hSw).at_ 5 rfl).lies)
  (try simp only [Act.put, List.setIfInBounds_toArray, List.set_cons_zero, List.set_cons_succ])
  refine AllS.take (i := 9) (v := .int .i64 ca) (by rw [List.getElem?_toArray]; rfl) (by kernel_rfl) (by kernel_rfl) (by kernel_rfl) (KeepsIf.call 15 #[.agg a.cells] (by kernel_rfl) (fun W => ?_) (fun W hSw => ?_)) ?_
  · go_simp
  · exact (C4.out W).mono (fun e w' h => ⟨h.1, below_seq hSw h.2⟩)
  (try simp only [Act.put, List.setIfInBounds_toArray, List.set_cons_zero, List.set_cons_succ])
  refine AllS.take (i := 10) (v := .bool true) (by rw [List.getElem?_toArray]; rfl) (by kernel_rfl) (by kernel_rfl) (by kernel_rfl) (KeepsIf.read (by rfl) (fun W hSw => ?_)) ?_
  · (try dsimp only at hSw)
    go_simp
  (try simp only [Act.put, List.setIfInBounds_toArray, List.set_cons_zero, List.set_cons_succ])
  refine AllS.take (i := 11) (v := ?_) (by rw [List.getElem?_toArray]; rfl) (by kernel_rfl) (by kernel_rfl) (by kernel_rfl) (KeepsIf.read (by rfl) ?_) ?_
  rotate_left
  · intro W hSw
    (try dsimp only at hSw)
    go_simp
    (try with_reducible rfl)
  rotate_left
  (try simp only [Act.put, List.setIfInBounds_toArray, List.set_cons_zero, List.set_cons_succ])
  refine AllS.take (i := 12) (v := ?_) (by rw [List.getElem?_toArray]; rfl) (by kernel_rfl) (by kernel_rfl) (by kernel_rfl) (KeepsIf.read (by rfl) ?_) ?_
  rotate_left
  · intro W hSw
    (try dsimp only at hSw)
    go_simp
    (try with_reducible rfl)
  rotate_left
  (try simp only [Act.put, List.setIfInBounds_toArray, List.set_cons_zero, List.set_cons_succ])
  refine AllS.take (i := 13) (v := .agg x.cells) (by rw [List.getElem?_toArray]; rfl) (by kernel_rfl) (by kernel_rfl) (by kernel_rfl) (KeepsIf.read (by rfl) (fun W hSw => ?_)) ?_
  · (try dsimp only at hSw)
    exact rdS (.tmp 7) rfl _ rfl x (((hK.below hSw).at_ 3 rfl).lies)
  (try simp only [Act.put, List.setIfInBounds_toArray, List.set_cons_zero, List.set_cons_succ])
  refine AllS.take (i := 14) (v := .agg x.cells) (by rw [List.getElem?_toArray]; rfl) (by kernel_rfl) (by kernel_rfl) (by kernel_rfl) (KeepsIf.read (by rfl) (fun W hSw => ?_)) ?_
  · (try dsimp only at hSw)
    exact rdS (.tmp 9) rfl _ rfl x (((hK.below hSw).at_ 2 rfl).lies)
  (try simp only [Act.put, List.setIfInBounds_toArray, List.set_cons_zero, List.set_cons_succ])
  refine AllS.take (i := 15) (v := .bool true) (by rw [List.getElem?_toArray]; rfl) (by kernel_rfl) (by kernel_rfl) (by kernel_rfl) (KeepsIf.read (by rfl) (fun W hSw => ?_)) ?_
  · (try dsimp only at hSw)
    have hq := HX.out; go_simp
  (try simp only [Act.put, List.setIfInBounds_toArray, List.set_cons_zero, List.set_cons_succ])
  refine AllS.take (i := 16) (v := ?_) (by rw [List.getElem?_toArray]; rfl) (by kernel_rfl) (by kernel_rfl) (by kernel_rfl) (KeepsIf.read (by rfl) ?_) ?_
  rotate_left
  · intro W hSw
    (try dsimp only at hSw)
    go_simp
    (try with_reducible rfl)
  rotate_left
  (try simp only [Act.put, List.setIfInBounds_toArray, List.set_cons_zero, List.set_cons_succ])
  refine AllS.take (i := 17) (v := ?_) (by rw [List.getElem?_toArray]; rfl) (by kernel_rfl) (by kernel_rfl) (by kernel_rfl) (KeepsIf.read (by rfl) ?_) ?_
  rotate_left
  · intro W hSw
    (try dsimp only at hSw)
    go_simp
    (try with_reducible rfl)
  rotate_left
  (try simp only [Act.put, List.setIfInBounds_toArray, List.set_cons_zero, List.set_cons_succ])
  refine AllS.take (i := 18) (v := ?_) (by rw [List.getElem?_toArray]; rfl) (by kernel_rfl) (by kernel_rfl) (by kernel_rfl) (KeepsIf.read (by rfl) ?_) ?_
  rotate_left
  · intro W hSw
    (try dsimp only at hSw)
    go_simp
    (try with_reducible rfl)
  rotate_left
  (try simp only [Act.put, List.setIfInBounds_toArray, List.set_cons_zero, List.set_cons_succ])
  refine AllS.take (i := 19) (v := ?_) (by rw [List.getElem?_toArray]; rfl) (by kernel_rfl) (by kernel_rfl) (by kernel_rfl) (KeepsIf.read (by rfl) ?_) ?_
  rotate_left
  · intro W hSw
    (try dsimp only at hSw)
    go_simp
    (try with_reducible rfl)
  rotate_left
  (try simp only [Act.put, List.setIfInBounds_toArray, List.set_cons_zero, List.set_cons_succ])
  refine AllS.take (i := 20) (v := .bool true) (by rw [List.getElem?_toArray]; rfl) (by kernel_rfl) (by kernel_rfl) (by kernel_rfl) (KeepsIf.read (by rfl) (fun W hSw => ?_)) ?_
  · (try dsimp only at hSw)
    go_simp
  (try simp only [Act.put, List.setIfInBounds_toArray, List.set_cons_zero, List.set_cons_succ])
  refine AllS.take (i := 21) (v := ?_) (by rw [List.getElem?_toArray]; rfl) (by kernel_rfl) (by kernel_rfl) (by kernel_rfl) (KeepsIf.read (by rfl) ?_) ?_
  rotate_left
  · intro W hSw
    (try dsimp only at hSw)
    go_simp
    (try with_reducible rfl)
  rotate_left
  (try simp only [Act.put, List.setIfInBounds_toArray, List.set_cons_zero, List.set_cons_succ])
  refine AllS.take (i := 22) (v := ?_) (by rw [List.getElem?_toArray]; rfl) (by kernel_rfl) (by kernel_rfl) (by kernel_rfl) (KeepsIf.read (by rfl) ?_) ?_
  rotate_left
  · intro W hSw
    (try dsimp only at hSw)
    go_simp
    (try with_reducible rfl)
  rotate_left
  (try simp only [Act.put, List.setIfInBounds_toArray, List.set_cons_zero, List.set_cons_succ])
  refine AllS.take (i := 23) (v := .agg u.cells) (by rw [List.getElem?_toArray]; rfl) (by kernel_rfl) (by kernel_rfl) (by kernel_rfl) (KeepsIf.read (by rfl) (fun W hSw => ?_)) ?_
  · (try dsimp only at hSw)
    exact rdD (.tmp 11) rfl _ rfl u (((hK.below hSw).at_ 1 rfl).lies)
  (try simp only [Act.put, List.setIfInBounds_toArray, List.set_cons_zero, List.set_cons_succ])
  refine AllS.take (i := 24) (v := .agg u.cells) (by rw [List.getElem?_toArray]; rfl) (by kernel_rfl) (by kernel_rfl) (by kernel_rfl) (KeepsIf.read (by rfl) (fun W hSw => ?_)) ?_
  · (try dsimp only at hSw)
    exact rdD (.tmp 13) rfl _ rfl u (((hK.below hSw).at_ 0 rfl).lies)
  (try simp only [Act.put, List.setIfInBounds_toArray, List.set_cons_zero, List.set_cons_succ])
  refine AllS.take (i := 25) (v := .bool true) (by rw [List.getElem?_toArray]; rfl) (by kernel_rfl) (by kernel_rfl) (by kernel_rfl) (KeepsIf.read (by rfl) (fun W hSw => ?_)) ?_
  · (try dsimp only at hSw)
    have hq := HU.out; go_simp
  (try simp only [Act.put, List.setIfInBounds_toArray, List.set_cons_zero, List.set_cons_succ])
  refine AllS.take (i := 26) (v := ?_) (by rw [List.getElem?_toArray]; rfl) (by kernel_rfl) (by kernel_rfl) (by kernel_rfl) (KeepsIf.read (by rfl) ?_) ?_
  rotate_left
  · intro W hSw
    (try dsimp only at hSw)
    go_simp
    (try with_reducible rfl)
  rotate_left
  (try simp only [Act.put, List.setIfInBounds_toArray, List.set_cons_zero, List.set_cons_succ])
  refine AllS.take (i := 27) (v := ?_) (by rw [List.getElem?_toArray]; rfl) (by kernel_rfl) (by kernel_rfl) (by kernel_rfl) (KeepsIf.read (by rfl) ?_) ?_
  rotate_left
  · intro W hSw
    (try dsimp only at hSw)
    go_simp
    (try with_reducible rfl)
  rotate_left
  (try simp only [Act.put, List.setIfInBounds_toArray, List.set_cons_zero, List.set_cons_succ])
  refine AllS.take (i := 28) (v := ?_) (by rw [List.getElem?_toArray]; rfl) (by kernel_rfl) (by kernel_rfl) (by kernel_rfl) (KeepsIf.read (by rfl) ?_) ?_
  rotate_left
  · intro W hSw
    (try dsimp only at hSw)
    go_simp
    (try with_reducible rfl)
  rotate_left
  (try simp only [Act.put, List.setIfInBounds_toArray, List.set_cons_zero, List.set_cons_succ])
  refine AllS.take (i := 29) (v := ?_) (by rw [List.getElem?_toArray]; rfl) (by kernel_rfl) (by kernel_rfl) (by kernel_rfl) (KeepsIf.read (by rfl) ?_) ?_
  rotate_left
  · intro W hSw
    (try dsimp only at hSw)
    go_simp
    (try with_reducible rfl)
  rotate_left
  (try simp only [Act.put, List.setIfInBounds_toArray, List.set_cons_zero, List.set_cons_succ])
  refine AllS.take (i := 30) (v := .bool true) (by rw [List.getElem?_toArray]; rfl) (by kernel_rfl) (by kernel_rfl) (by kernel_rfl) (KeepsIf.read (by rfl) (fun W hSw => ?_)) ?_
  · (try dsimp only at hSw)
    go_simp
  (try simp only [Act.put, List.setIfInBounds_toArray, List.set_cons_zero, List.set_cons_succ])
  refine AllS.take (i := 31) (v := ?_) (by rw [List.getElem?_toArray]; rfl) (by kernel_rfl) (by kernel_rfl) (by kernel_rfl) (KeepsIf.read (by rfl) ?_) ?_
  rotate_left
  · intro W hSw
    (try dsimp only at hSw)
    go_simp
    (try with_reducible rfl)
  rotate_left
  (try simp only [Act.put, List.setIfInBounds_toArray, List.set_cons_zero, List.set_cons_succ])
  refine AllS.take (i := 32) (v := ?_) (by rw [List.getElem?_toArray]; rfl) (by kernel_rfl) (by kernel_rfl) (by kernel_rfl) (KeepsIf.read (by rfl) ?_) ?_
  rotate_left
  · intro W hSw
    (try dsimp only at hSw)
    go_simp
    (try with_reducible rfl)
  rotate_left
  (try simp only [Act.put, List.setIfInBounds_toArray, List.set_cons_zero, List.set_cons_succ])
  refine AllS.take (i := 33) (v := .agg Sty.first.cells) (by rw [List.getElem?_toArray]; rfl) (by kernel_rfl) (by kernel_rfl) (by kernel_rfl) (KeepsIf.call 16 #[] (by kernel_rfl) (fun W => ?_) (fun W hSw => ?_)) ?_
  · go_simp
  · exact (C5.out W).mono (fun e w' h => ⟨h.1, below_seq hSw h.2⟩)
  (try simp only [Act.put, List.setIfInBounds_toArray, List.set_cons_zero, List.set_cons_succ])
  refine AllS.take (i := 34) (v := .agg Sty.first.cells) (by rw [List.getElem?_toArray]; rfl) (by kernel_rfl) (by kernel_rfl) (by kernel_rfl) (KeepsIf.call 17 #[] (by kernel_rfl) (fun W => ?_) (fun W hSw => ?_)) ?_
  · go_simp
  · exact (C6.out W).mono (fun e w' h => ⟨h.1, below_seq hSw h.2⟩)
  (try simp only [Act.put, List.setIfInBounds_toArray, List.set_cons_zero, List.set_cons_succ])
  refine AllS.take (i := 35) (v := .bool true) (by rw [List.getElem?_toArray]; rfl) (by kernel_rfl) (by kernel_rfl) (by kernel_rfl) (KeepsIf.read (by rfl) (fun W hSw => ?_)) ?_
  · (try dsimp only at hSw)
    have hq := HF.out; go_simp
  (try simp only [Act.put, List.setIfInBounds_toArray, List.set_cons_zero, List.set_cons_succ])
  refine AllS.take (i := 36) (v := ?_) (by rw [List.getElem?_toArray]; rfl) (by kernel_rfl) (by kernel_rfl) (by kernel_rfl) (KeepsIf.read (by rfl) ?_) ?_
  rotate_left
  · intro W hSw
    (try dsimp only at hSw)
    go_simp
    (try with_reducible rfl)
  rotate_left
  (try simp only [Act.put, List.setIfInBounds_toArray, List.set_cons_zero, List.set_cons_succ])
  refine AllS.take (i := 37) (v := ?_) (by rw [List.getElem?_toArray]; rfl) (by kernel_rfl) (by kernel_rfl) (by kernel_rfl) (KeepsIf.read (by rfl) ?_) ?_
  rotate_left
  · intro W hSw
    (try dsimp only at hSw)
    go_simp
    (try with_reducible rfl)
  rotate_left
  (try simp only [Act.put, List.setIfInBounds_toArray, List.set_cons_zero, List.set_cons_succ])
  refine AllS.take (i := 38) (v := .bool true) (by rw [List.getElem?_toArray]; rfl) (by kernel_rfl) (by kernel_rfl) (by kernel_rfl) (KeepsIf.call 18 #[] (by kernel_rfl) (fun W => ?_) (fun W hSw => ?_)) ?_
  · go_simp
  · exact (CH.out W).mono (fun e w' h => ⟨h.1, below_seq hSw h.2⟩)
  (try simp only [Act.put, List.setIfInBounds_toArray, List.set_cons_zero, List.set_cons_succ])
  refine AllS.take (i := 39) (v := ?_) (by rw [List.getElem?_toArray]; rfl) (by kernel_rfl) (by kernel_rfl) (by kernel_rfl) (KeepsIf.read (by rfl) ?_) ?_
  rotate_left
  · intro W hSw
    (try dsimp only at hSw)
    go_simp
    (try with_reducible rfl)
  rotate_left
  (try simp only [Act.put, List.setIfInBounds_toArray, List.set_cons_zero, List.set_cons_succ])
  refine AllS.take (i := 40) (v := ?_) (by rw [List.getElem?_toArray]; rfl) (by kernel_rfl) (by kernel_rfl) (by kernel_rfl) (KeepsIf.read (by rfl) ?_) ?_
  rotate_left
  · intro W hSw
    (try dsimp only at hSw)
    go_simp
    (try with_reducible rfl)
  rotate_left
  (try simp only [Act.put, List.setIfInBounds_toArray, List.set_cons_zero, List.set_cons_succ])
  refine AllS.done (by kernel_rfl) (hR.out _ ?_) _
  clear hR R
  intro w12 b12
  go_wp2_with fail
  go_ret
  exact ⟨rfl, below_seq bel b12⟩
end Go.Proofs.Ythdihhfbkfenmaa
