/- Contract of the document's Over for layer 6. Condition: a declaration's bits are a 16-bit number. -/
import Derived.Test.YthdihhfbkfenmaaY7
namespace Go.Proofs.Ythdihhfbkfenmaa
open Go.ChangeShapes Go.WideShapes Go.ChangeAt Go.RowKit

set_option maxRecDepth 100000 in
set_option maxHeartbeats 8000000 in
theorem rover_any (s : Sty) (d : Dcl) (w : World) (hn : d.n < 65536) :
    Calls Try.prog 23 #[.agg s.cells, .agg d.cells] w fun e w' => e = .returned (.agg (over s d).cells) ∧ Below w.heap.size w w' := by
  go_enter Try.func23, Try.ntmps23
  go_wp2_with (first
    | (refine bxSV rfl (.tmp 0) rfl s rfl ?_; intro w1 b1 B1)
    | (refine bxDV rfl (.tmp 1) rfl d rfl ?_; intro w2 b2 B2)
    | (refine alSV rfl rfl ?_; intro w3 b3 B3))
  have hlt : w.heap.size < w1.heap.size := B1.lt
  have hlt2 : w1.heap.size < w2.heap.size := B2.lt
  have A0 : Blk w3 w.heap.size 23 (ovk 0 s d.n d.s).cells := ovk_zero s d.n d.s ▸ (B1.keep (S := fun _ => False) (Mod.of_below b2) id).keep (S := fun _ => False) (Mod.of_below b3) id
  have A1 : Blk w3 w1.heap.size 26 d.cells := B2.keep (S := fun _ => False) (Mod.of_below b3) id
  have A2 : Blk w3 w2.heap.size 23 Sty.zero.cells := B3
  have b03 := below_seq (below_seq b1 b2) b3
  clear b1 B1 b2 B2 b3 B3
  obtain ⟨g, hg⟩ : ∃ g, w1.heap.size = g := ⟨_, rfl⟩
  obtain ⟨g2, hg2⟩ : ∃ g, w2.heap.size = g := ⟨_, rfl⟩
  rw [hg] at hlt hlt2 A1 ⊢
  rw [hg2] at hlt2 A2 ⊢
  clear hg hg2
  go_loopg [5] 8 (fun kx s5 wr => ∃ (k : Nat) (z : Int), z = k ∧ s5 = .int .i64 z ∧ k ≤ 8 ∧ kx = 8 - k ∧ Below w.heap.size w wr ∧ Blk wr w.heap.size 23 (ovk k s d.n d.s).cells ∧ Blk wr g 26 d.cells ∧ Blk wr g2 23 Sty.zero.cells)
  case atStart => exact ⟨0, 0, rfl, rfl, by omega, rfl, b03, A0, A1, A2⟩
  case round =>
    obtain ⟨k, z, hz, rfl, hk, rfl, bel, h0, h1, h2⟩ := hrel
    clear A0 A1 A2 b03
    by_cases hlt3 : k < 8
    · clear hk
      rcases (show k = 0 ∨ k = 1 ∨ k = 2 ∨ k = 3 ∨ k = 4 ∨ k = 5 ∨ k = 6 ∨ k = 7 from by omega) with rfl | rfl | rfl | rfl | rfl | rfl | rfl | rfl
      · obtain rfl : z = 0 := by omega
        clear hz hlt3
        have C := Lib.hid (fun w => rsays0 d w hn)
        by_cases hb : d.n.testBit 0 = true
        · have hy := ovk_yes 0 (by omega) s d.n d.s hb
          have HY := Lib.hid hy
          rw [hb] at C
          clear hb hy
          go_wp2_with (refine ldD rfl (.tmp 3) rfl _ rfl d h1.lies ?_)
          refine (C.out _).mono ?_
          rintro e w5 ⟨rfl, b5⟩
          have K0 := h0.keep (S := fun _ => False) (Mod.of_below b5) id
          have K1 := h1.keep (S := fun _ => False) (Mod.of_below b5) id
          have K2 := h2.keep (S := fun _ => False) (Mod.of_below b5) id
          go_wp2_with (first
            | (refine ldS rfl (.tmp 2) rfl _ rfl (ovk 0 s d.n d.s) K0.lies ?_)
            | (refine ldS rfl (.tmp 14) rfl _ rfl d.s K1.sub ?_))
          refine (rone0 (ovk 0 s d.n d.s) d.s _).mono ?_
          rintro e w6 ⟨rfl, b6⟩
          go_wp2_with (refine stS rfl (.tmp 2) (.tmp 17) rfl rfl _ rfl (put1 0 (ovk 0 s d.n d.s) d.s) rfl (ovk 0 s d.n d.s) (K0.keep (S := fun _ => False) (Mod.of_below b6) id) ?_; intro w7 m7 B7)
          go_roundg (8 - 1)
          case measure => omega
          case rel => exact ⟨1, 1, rfl, rfl, by omega, rfl, bel.trans (((below_seq b5 b6).mono bel.size).trans (m7.below (Nat.le_trans bel.size (below_seq b5 b6).size) (fun k hk => by omega))), by rw [HY.out]; exact B7, (K1.keep (S := fun _ => False) (Mod.of_below b6) id).keep m7 (by omega), (K2.keep (S := fun _ => False) (Mod.of_below b6) id).keep m7 (by omega)⟩
        · have hb2 := Bool.eq_false_iff.2 hb
          have hy := ovk_no 0 (by omega) s d.n d.s hb2
          have HY := Lib.hid hy
          rw [hb2] at C
          clear hb hb2 hy
          go_wp2_with (refine ldD rfl (.tmp 3) rfl _ rfl d h1.lies ?_)
          refine (C.out _).mono ?_
          rintro e w5 ⟨rfl, b5⟩
          go_wp2_with fail
          go_roundg (8 - 1)
          case measure => omega
          case rel => exact ⟨1, 1, rfl, rfl, by omega, rfl, bel.trans (b5.mono bel.size), by rw [HY.out]; exact h0.keep (S := fun _ => False) (Mod.of_below b5) id, h1.keep (S := fun _ => False) (Mod.of_below b5) id, h2.keep (S := fun _ => False) (Mod.of_below b5) id⟩
      · obtain rfl : z = 1 := by omega
        clear hz hlt3
        have C := Lib.hid (fun w => rsays1 d w hn)
        by_cases hb : d.n.testBit 1 = true
        · have hy := ovk_yes 1 (by omega) s d.n d.s hb
          have HY := Lib.hid hy
          rw [hb] at C
          clear hb hy
          go_wp2_with (refine ldD rfl (.tmp 3) rfl _ rfl d h1.lies ?_)
          refine (C.out _).mono ?_
          rintro e w5 ⟨rfl, b5⟩
          have K0 := h0.keep (S := fun _ => False) (Mod.of_below b5) id
          have K1 := h1.keep (S := fun _ => False) (Mod.of_below b5) id
          have K2 := h2.keep (S := fun _ => False) (Mod.of_below b5) id
          go_wp2_with (first
            | (refine ldS rfl (.tmp 2) rfl _ rfl (ovk 1 s d.n d.s) K0.lies ?_)
            | (refine ldS rfl (.tmp 14) rfl _ rfl d.s K1.sub ?_))
          refine (rone1 (ovk 1 s d.n d.s) d.s _).mono ?_
          rintro e w6 ⟨rfl, b6⟩
          go_wp2_with (refine stS rfl (.tmp 2) (.tmp 17) rfl rfl _ rfl (put1 1 (ovk 1 s d.n d.s) d.s) rfl (ovk 1 s d.n d.s) (K0.keep (S := fun _ => False) (Mod.of_below b6) id) ?_; intro w7 m7 B7)
          go_roundg (8 - 2)
          case measure => omega
          case rel => exact ⟨2, 2, rfl, rfl, by omega, rfl, bel.trans (((below_seq b5 b6).mono bel.size).trans (m7.below (Nat.le_trans bel.size (below_seq b5 b6).size) (fun k hk => by omega))), by rw [HY.out]; exact B7, (K1.keep (S := fun _ => False) (Mod.of_below b6) id).keep m7 (by omega), (K2.keep (S := fun _ => False) (Mod.of_below b6) id).keep m7 (by omega)⟩
        · have hb2 := Bool.eq_false_iff.2 hb
          have hy := ovk_no 1 (by omega) s d.n d.s hb2
          have HY := Lib.hid hy
          rw [hb2] at C
          clear hb hb2 hy
          go_wp2_with (refine ldD rfl (.tmp 3) rfl _ rfl d h1.lies ?_)
          refine (C.out _).mono ?_
          rintro e w5 ⟨rfl, b5⟩
          go_wp2_with fail
          go_roundg (8 - 2)
          case measure => omega
          case rel => exact ⟨2, 2, rfl, rfl, by omega, rfl, bel.trans (b5.mono bel.size), by rw [HY.out]; exact h0.keep (S := fun _ => False) (Mod.of_below b5) id, h1.keep (S := fun _ => False) (Mod.of_below b5) id, h2.keep (S := fun _ => False) (Mod.of_below b5) id⟩
      · obtain rfl : z = 2 := by omega
        clear hz hlt3
        have C := Lib.hid (fun w => rsays2 d w hn)
        by_cases hb : d.n.testBit 2 = true
        · have hy := ovk_yes 2 (by omega) s d.n d.s hb
          have HY := Lib.hid hy
          rw [hb] at C
          clear hb hy
          go_wp2_with (refine ldD rfl (.tmp 3) rfl _ rfl d h1.lies ?_)
          refine (C.out _).mono ?_
          rintro e w5 ⟨rfl, b5⟩
          have K0 := h0.keep (S := fun _ => False) (Mod.of_below b5) id
          have K1 := h1.keep (S := fun _ => False) (Mod.of_below b5) id
          have K2 := h2.keep (S := fun _ => False) (Mod.of_below b5) id
          go_wp2_with (first
            | (refine ldS rfl (.tmp 2) rfl _ rfl (ovk 2 s d.n d.s) K0.lies ?_)
            | (refine ldS rfl (.tmp 14) rfl _ rfl d.s K1.sub ?_))
          refine (rone2 (ovk 2 s d.n d.s) d.s _).mono ?_
          rintro e w6 ⟨rfl, b6⟩
          go_wp2_with (refine stS rfl (.tmp 2) (.tmp 17) rfl rfl _ rfl (put1 2 (ovk 2 s d.n d.s) d.s) rfl (ovk 2 s d.n d.s) (K0.keep (S := fun _ => False) (Mod.of_below b6) id) ?_; intro w7 m7 B7)
          go_roundg (8 - 3)
          case measure => omega
          case rel => exact ⟨3, 3, rfl, rfl, by omega, rfl, bel.trans (((below_seq b5 b6).mono bel.size).trans (m7.below (Nat.le_trans bel.size (below_seq b5 b6).size) (fun k hk => by omega))), by rw [HY.out]; exact B7, (K1.keep (S := fun _ => False) (Mod.of_below b6) id).keep m7 (by omega), (K2.keep (S := fun _ => False) (Mod.of_below b6) id).keep m7 (by omega)⟩
        · have hb2 := Bool.eq_false_iff.2 hb
          have hy := ovk_no 2 (by omega) s d.n d.s hb2
          have HY := Lib.hid hy
          rw [hb2] at C
          clear hb hb2 hy
          go_wp2_with (refine ldD rfl (.tmp 3) rfl _ rfl d h1.lies ?_)
          refine (C.out _).mono ?_
          rintro e w5 ⟨rfl, b5⟩
          go_wp2_with fail
          go_roundg (8 - 3)
          case measure => omega
          case rel => exact ⟨3, 3, rfl, rfl, by omega, rfl, bel.trans (b5.mono bel.size), by rw [HY.out]; exact h0.keep (S := fun _ => False) (Mod.of_below b5) id, h1.keep (S := fun _ => False) (Mod.of_below b5) id, h2.keep (S := fun _ => False) (Mod.of_below b5) id⟩
      · obtain rfl : z = 3 := by omega
        clear hz hlt3
        have C := Lib.hid (fun w => rsays3 d w hn)
        by_cases hb : d.n.testBit 3 = true
        · have hy := ovk_yes 3 (by omega) s d.n d.s hb
          have HY := Lib.hid hy
          rw [hb] at C
          clear hb hy
          go_wp2_with (refine ldD rfl (.tmp 3) rfl _ rfl d h1.lies ?_)
          refine (C.out _).mono ?_
          rintro e w5 ⟨rfl, b5⟩
          have K0 := h0.keep (S := fun _ => False) (Mod.of_below b5) id
          have K1 := h1.keep (S := fun _ => False) (Mod.of_below b5) id
          have K2 := h2.keep (S := fun _ => False) (Mod.of_below b5) id
          go_wp2_with (first
            | (refine ldS rfl (.tmp 2) rfl _ rfl (ovk 3 s d.n d.s) K0.lies ?_)
            | (refine ldS rfl (.tmp 14) rfl _ rfl d.s K1.sub ?_))
          refine (rone3 (ovk 3 s d.n d.s) d.s _).mono ?_
          rintro e w6 ⟨rfl, b6⟩
          go_wp2_with (refine stS rfl (.tmp 2) (.tmp 17) rfl rfl _ rfl (put1 3 (ovk 3 s d.n d.s) d.s) rfl (ovk 3 s d.n d.s) (K0.keep (S := fun _ => False) (Mod.of_below b6) id) ?_; intro w7 m7 B7)
          go_roundg (8 - 4)
          case measure => omega
          case rel => exact ⟨4, 4, rfl, rfl, by omega, rfl, bel.trans (((below_seq b5 b6).mono bel.size).trans (m7.below (Nat.le_trans bel.size (below_seq b5 b6).size) (fun k hk => by omega))), by rw [HY.out]; exact B7, (K1.keep (S := fun _ => False) (Mod.of_below b6) id).keep m7 (by omega), (K2.keep (S := fun _ => False) (Mod.of_below b6) id).keep m7 (by omega)⟩
        · have hb2 := Bool.eq_false_iff.2 hb
          have hy := ovk_no 3 (by omega) s d.n d.s hb2
          have HY := Lib.hid hy
          rw [hb2] at C
          clear hb hb2 hy
          go_wp2_with (refine ldD rfl (.tmp 3) rfl _ rfl d h1.lies ?_)
          refine (C.out _).mono ?_
          rintro e w5 ⟨rfl, b5⟩
          go_wp2_with fail
          go_roundg (8 - 4)
          case measure => omega
          case rel => exact ⟨4, 4, rfl, rfl, by omega, rfl, bel.trans (b5.mono bel.size), by rw [HY.out]; exact h0.keep (S := fun _ => False) (Mod.of_below b5) id, h1.keep (S := fun _ => False) (Mod.of_below b5) id, h2.keep (S := fun _ => False) (Mod.of_below b5) id⟩
      · obtain rfl : z = 4 := by omega
        clear hz hlt3
        have C := Lib.hid (fun w => rsays4 d w hn)
        by_cases hb : d.n.testBit 4 = true
        · have hy := ovk_yes 4 (by omega) s d.n d.s hb
          have HY := Lib.hid hy
          rw [hb] at C
          clear hb hy
          go_wp2_with (refine ldD rfl (.tmp 3) rfl _ rfl d h1.lies ?_)
          refine (C.out _).mono ?_
          rintro e w5 ⟨rfl, b5⟩
          have K0 := h0.keep (S := fun _ => False) (Mod.of_below b5) id
          have K1 := h1.keep (S := fun _ => False) (Mod.of_below b5) id
          have K2 := h2.keep (S := fun _ => False) (Mod.of_below b5) id
          go_wp2_with (first
            | (refine ldS rfl (.tmp 2) rfl _ rfl (ovk 4 s d.n d.s) K0.lies ?_)
            | (refine ldS rfl (.tmp 14) rfl _ rfl d.s K1.sub ?_))
          refine (rone4 (ovk 4 s d.n d.s) d.s _).mono ?_
          rintro e w6 ⟨rfl, b6⟩
          go_wp2_with (refine stS rfl (.tmp 2) (.tmp 17) rfl rfl _ rfl (put1 4 (ovk 4 s d.n d.s) d.s) rfl (ovk 4 s d.n d.s) (K0.keep (S := fun _ => False) (Mod.of_below b6) id) ?_; intro w7 m7 B7)
          go_roundg (8 - 5)
          case measure => omega
          case rel => exact ⟨5, 5, rfl, rfl, by omega, rfl, bel.trans (((below_seq b5 b6).mono bel.size).trans (m7.below (Nat.le_trans bel.size (below_seq b5 b6).size) (fun k hk => by omega))), by rw [HY.out]; exact B7, (K1.keep (S := fun _ => False) (Mod.of_below b6) id).keep m7 (by omega), (K2.keep (S := fun _ => False) (Mod.of_below b6) id).keep m7 (by omega)⟩
        · have hb2 := Bool.eq_false_iff.2 hb
          have hy := ovk_no 4 (by omega) s d.n d.s hb2
          have HY := Lib.hid hy
          rw [hb2] at C
          clear hb hb2 hy
          go_wp2_with (refine ldD rfl (.tmp 3) rfl _ rfl d h1.lies ?_)
          refine (C.out _).mono ?_
          rintro e w5 ⟨rfl, b5⟩
          go_wp2_with fail
          go_roundg (8 - 5)
          case measure => omega
          case rel => exact ⟨5, 5, rfl, rfl, by omega, rfl, bel.trans (b5.mono bel.size), by rw [HY.out]; exact h0.keep (S := fun _ => False) (Mod.of_below b5) id, h1.keep (S := fun _ => False) (Mod.of_below b5) id, h2.keep (S := fun _ => False) (Mod.of_below b5) id⟩
      · obtain rfl : z = 5 := by omega
        clear hz hlt3
        have C := Lib.hid (fun w => rsays5 d w hn)
        by_cases hb : d.n.testBit 5 = true
        · have hy := ovk_yes 5 (by omega) s d.n d.s hb
          have HY := Lib.hid hy
          rw [hb] at C
          clear hb hy
          go_wp2_with (refine ldD rfl (.tmp 3) rfl _ rfl d h1.lies ?_)
          refine (C.out _).mono ?_
          rintro e w5 ⟨rfl, b5⟩
          have K0 := h0.keep (S := fun _ => False) (Mod.of_below b5) id
          have K1 := h1.keep (S := fun _ => False) (Mod.of_below b5) id
          have K2 := h2.keep (S := fun _ => False) (Mod.of_below b5) id
          go_wp2_with (first
            | (refine ldS rfl (.tmp 2) rfl _ rfl (ovk 5 s d.n d.s) K0.lies ?_)
            | (refine ldS rfl (.tmp 14) rfl _ rfl d.s K1.sub ?_))
          refine (rone5 (ovk 5 s d.n d.s) d.s _).mono ?_
          rintro e w6 ⟨rfl, b6⟩
          go_wp2_with (refine stS rfl (.tmp 2) (.tmp 17) rfl rfl _ rfl (put1 5 (ovk 5 s d.n d.s) d.s) rfl (ovk 5 s d.n d.s) (K0.keep (S := fun _ => False) (Mod.of_below b6) id) ?_; intro w7 m7 B7)
          go_roundg (8 - 6)
          case measure => omega
          case rel => exact ⟨6, 6, rfl, rfl, by omega, rfl, bel.trans (((below_seq b5 b6).mono bel.size).trans (m7.below (Nat.le_trans bel.size (below_seq b5 b6).size) (fun k hk => by omega))), by rw [HY.out]; exact B7, (K1.keep (S := fun _ => False) (Mod.of_below b6) id).keep m7 (by omega), (K2.keep (S := fun _ => False) (Mod.of_below b6) id).keep m7 (by omega)⟩
        · have hb2 := Bool.eq_false_iff.2 hb
          have hy := ovk_no 5 (by omega) s d.n d.s hb2
          have HY := Lib.hid hy
          rw [hb2] at C
          clear hb hb2 hy
          go_wp2_with (refine ldD rfl (.tmp 3) rfl _ rfl d h1.lies ?_)
          refine (C.out _).mono ?_
          rintro e w5 ⟨rfl, b5⟩
          go_wp2_with fail
          go_roundg (8 - 6)
          case measure => omega
          case rel => exact ⟨6, 6, rfl, rfl, by omega, rfl, bel.trans (b5.mono bel.size), by rw [HY.out]; exact h0.keep (S := fun _ => False) (Mod.of_below b5) id, h1.keep (S := fun _ => False) (Mod.of_below b5) id, h2.keep (S := fun _ => False) (Mod.of_below b5) id⟩
      · obtain rfl : z = 6 := by omega
        clear hz hlt3
        have C := Lib.hid (fun w => rsays6 d w hn)
        by_cases hb : d.n.testBit 6 = true
        · have hy := ovk_yes 6 (by omega) s d.n d.s hb
          have HY := Lib.hid hy
          rw [hb] at C
          clear hb hy
          go_wp2_with (refine ldD rfl (.tmp 3) rfl _ rfl d h1.lies ?_)
          refine (C.out _).mono ?_
          rintro e w5 ⟨rfl, b5⟩
          have K0 := h0.keep (S := fun _ => False) (Mod.of_below b5) id
          have K1 := h1.keep (S := fun _ => False) (Mod.of_below b5) id
          have K2 := h2.keep (S := fun _ => False) (Mod.of_below b5) id
          go_wp2_with (first
            | (refine ldS rfl (.tmp 2) rfl _ rfl (ovk 6 s d.n d.s) K0.lies ?_)
            | (refine ldS rfl (.tmp 14) rfl _ rfl d.s K1.sub ?_))
          refine (rone6 (ovk 6 s d.n d.s) d.s _).mono ?_
          rintro e w6 ⟨rfl, b6⟩
          go_wp2_with (refine stS rfl (.tmp 2) (.tmp 17) rfl rfl _ rfl (put1 6 (ovk 6 s d.n d.s) d.s) rfl (ovk 6 s d.n d.s) (K0.keep (S := fun _ => False) (Mod.of_below b6) id) ?_; intro w7 m7 B7)
          go_roundg (8 - 7)
          case measure => omega
          case rel => exact ⟨7, 7, rfl, rfl, by omega, rfl, bel.trans (((below_seq b5 b6).mono bel.size).trans (m7.below (Nat.le_trans bel.size (below_seq b5 b6).size) (fun k hk => by omega))), by rw [HY.out]; exact B7, (K1.keep (S := fun _ => False) (Mod.of_below b6) id).keep m7 (by omega), (K2.keep (S := fun _ => False) (Mod.of_below b6) id).keep m7 (by omega)⟩
        · have hb2 := Bool.eq_false_iff.2 hb
          have hy := ovk_no 6 (by omega) s d.n d.s hb2
          have HY := Lib.hid hy
          rw [hb2] at C
          clear hb hb2 hy
          go_wp2_with (refine ldD rfl (.tmp 3) rfl _ rfl d h1.lies ?_)
          refine (C.out _).mono ?_
          rintro e w5 ⟨rfl, b5⟩
          go_wp2_with fail
          go_roundg (8 - 7)
          case measure => omega
          case rel => exact ⟨7, 7, rfl, rfl, by omega, rfl, bel.trans (b5.mono bel.size), by rw [HY.out]; exact h0.keep (S := fun _ => False) (Mod.of_below b5) id, h1.keep (S := fun _ => False) (Mod.of_below b5) id, h2.keep (S := fun _ => False) (Mod.of_below b5) id⟩
      · obtain rfl : z = 7 := by omega
        clear hz hlt3
        have C := Lib.hid (fun w => rsays7 d w hn)
        by_cases hb : d.n.testBit 7 = true
        · have hy := ovk_yes 7 (by omega) s d.n d.s hb
          have HY := Lib.hid hy
          rw [hb] at C
          clear hb hy
          go_wp2_with (refine ldD rfl (.tmp 3) rfl _ rfl d h1.lies ?_)
          refine (C.out _).mono ?_
          rintro e w5 ⟨rfl, b5⟩
          have K0 := h0.keep (S := fun _ => False) (Mod.of_below b5) id
          have K1 := h1.keep (S := fun _ => False) (Mod.of_below b5) id
          have K2 := h2.keep (S := fun _ => False) (Mod.of_below b5) id
          go_wp2_with (first
            | (refine ldS rfl (.tmp 2) rfl _ rfl (ovk 7 s d.n d.s) K0.lies ?_)
            | (refine ldS rfl (.tmp 14) rfl _ rfl d.s K1.sub ?_))
          refine (rone7 (ovk 7 s d.n d.s) d.s _).mono ?_
          rintro e w6 ⟨rfl, b6⟩
          go_wp2_with (refine stS rfl (.tmp 2) (.tmp 17) rfl rfl _ rfl (put1 7 (ovk 7 s d.n d.s) d.s) rfl (ovk 7 s d.n d.s) (K0.keep (S := fun _ => False) (Mod.of_below b6) id) ?_; intro w7 m7 B7)
          go_roundg (8 - 8)
          case measure => omega
          case rel => exact ⟨8, 8, rfl, rfl, by omega, rfl, bel.trans (((below_seq b5 b6).mono bel.size).trans (m7.below (Nat.le_trans bel.size (below_seq b5 b6).size) (fun k hk => by omega))), by rw [HY.out]; exact B7, (K1.keep (S := fun _ => False) (Mod.of_below b6) id).keep m7 (by omega), (K2.keep (S := fun _ => False) (Mod.of_below b6) id).keep m7 (by omega)⟩
        · have hb2 := Bool.eq_false_iff.2 hb
          have hy := ovk_no 7 (by omega) s d.n d.s hb2
          have HY := Lib.hid hy
          rw [hb2] at C
          clear hb hb2 hy
          go_wp2_with (refine ldD rfl (.tmp 3) rfl _ rfl d h1.lies ?_)
          refine (C.out _).mono ?_
          rintro e w5 ⟨rfl, b5⟩
          go_wp2_with fail
          go_roundg (8 - 8)
          case measure => omega
          case rel => exact ⟨8, 8, rfl, rfl, by omega, rfl, bel.trans (b5.mono bel.size), by rw [HY.out]; exact h0.keep (S := fun _ => False) (Mod.of_below b5) id, h1.keep (S := fun _ => False) (Mod.of_below b5) id, h2.keep (S := fun _ => False) (Mod.of_below b5) id⟩
    · obtain rfl : k = 8 := by omega
      obtain rfl : z = 8 := by omega
      clear hz hlt3 hk
      have h3 : Blk wr w.heap.size 23 (over s d).cells := h0
      clear h0
      go_wp2_with (first
        | (refine ldS rfl (.tmp 2) rfl _ rfl (over s d) h3.lies ?_)
        | (refine stS rfl (.tmp 4) (.tmp 18) rfl rfl _ rfl (over s d) rfl .zero h2 ?_; intro w6 m6 B6))
      refine bodyPost_ret (v := .agg (over s d).cells) (res_row rfl _ _ g2 23 _ _ rfl B6 uS rfl iS) rfl ⟨rfl, bel.trans (m6.below bel.size (fun k hk => by omega))⟩
end Go.Proofs.Ythdihhfbkfenmaa
