/- Contract of style.apply: a style with a declaration applied. Condition: the declaration's bits are a 16-bit number. -/
import Derived.Test.YtgpobhnonjdamaaDoorY3
import Derived.Test.YtgpobhnonjdamaaDoorYBits
namespace Go.Proofs.YtgpobhnonjdamaaDoor
open Go.ChangeShapes Go.WideShapes Go.ChangeAt Go.RowKit

set_option maxRecDepth 100000 in
set_option maxHeartbeats 8000000 in
theorem yapply_any (s : Sty) (d : Dcl) (w : World) (hn : d.n < 65536) :
    Calls Tryd.prog 52 #[.agg s.cells, .agg d.cells] w fun e w' => e = .returned (.agg (over s d).cells) ∧ Below w.heap.size w w' := by
  go_enter Tryd.func52, Tryd.ntmps52
  go_wp2_with (first
    | (refine bxSV rfl (.tmp 0) rfl s rfl ?_; intro w1 b1 B1)
    | (refine bxDV rfl (.tmp 1) rfl d rfl ?_; intro w2 b2 B2)
    | (refine alSV rfl rfl ?_; intro w3 b3 B3))
  refine (yparts_any _).mono ?_
  rintro e w4 ⟨rfl, b4⟩
  have hlt : w.heap.size < w1.heap.size := B1.lt
  have hlt2 : w1.heap.size < w2.heap.size := B2.lt
  have A0 : Blk w4 w.heap.size 31 (ovk 0 s d.n d.s).cells := ovk_zero s d.n d.s ▸ ((B1.keep (S := fun _ => False) (Mod.of_below b2) id).keep (S := fun _ => False) (Mod.of_below b3) id).keep (S := fun _ => False) (Mod.of_below b4) id
  have A1 : Blk w4 w1.heap.size 33 d.cells := (B2.keep (S := fun _ => False) (Mod.of_below b3) id).keep (S := fun _ => False) (Mod.of_below b4) id
  have A2 : Blk w4 w2.heap.size 31 Sty.zero.cells := B3.keep (S := fun _ => False) (Mod.of_below b4) id
  have b04 := below_seq (below_seq (below_seq b1 b2) b3) b4
  clear b1 B1 b2 B2 b3 B3 b4
  obtain ⟨g, hg⟩ : ∃ g, w1.heap.size = g := ⟨_, rfl⟩
  obtain ⟨g2, hg2⟩ : ∃ g, w2.heap.size = g := ⟨_, rfl⟩
  rw [hg] at hlt hlt2 A1 ⊢
  rw [hg2] at hlt2 A2 ⊢
  clear hg hg2
  go_wp2_with fail
  go_loopg [8] 8 (fun kx s8 wr => ∃ (k : Nat) (z : Int), z = k ∧ s8 = .int .i64 z ∧ k ≤ 8 ∧ kx = 8 - k ∧ Below w.heap.size w wr ∧ Blk wr w.heap.size 31 (ovk k s d.n d.s).cells ∧ Blk wr g 33 d.cells ∧ Blk wr g2 31 Sty.zero.cells)
  case atStart => exact ⟨0, 0, rfl, rfl, by omega, rfl, b04, A0, A1, A2⟩
  case round =>
    obtain ⟨k, z, hz, rfl, hk, rfl, bel, h0, h1, h2⟩ := hrel
    clear A0 A1 A2 b04
    by_cases hlt3 : k < 8
    · clear hk
      rcases (show k = 0 ∨ k = 1 ∨ k = 2 ∨ k = 3 ∨ k = 4 ∨ k = 5 ∨ k = 6 ∨ k = 7 from by omega) with rfl | rfl | rfl | rfl | rfl | rfl | rfl | rfl
      · obtain rfl : z = 0 := by omega
        clear hz hlt3
        have ix : ∀ w, (Instr.index 113 (.agg partsV) (.int .i64 0)).run Tryd.prog w = .ok (.agg rowP0) w := fun _ => by kernel_rfl
        by_cases hb : d.n.testBit 0 = true
        · have hy := ovk_yes 0 (by omega) s d.n d.s hb
          have HY := Lib.hid hy
          have hand : bits .and .u16 (d.n : Int) 1 = 1 := bit_yes d.n 0 1 hn hb rfl (by omega)
          clear hb hy
          go_wp2_with (first
            | (refine wpList_newS rfl rfl 112 6 rfl rfl (.tmp 10) rfl rfl _ alP rowP0 (fun _ => rfl) (fun _ => rfl) iP rfl (by kernel_rfl) ?_; intro w5 b5 B5; have c0 : w5.cell? ⟨wr.heap.size, 0, none⟩ = some (.int .u16 1) := B5.cell 0; have c3 : w5.cell? ⟨wr.heap.size, 3, none⟩ = some (.func (.func 73) #[] #[]) := B5.cell 3; have K0 := h0.keep (S := fun _ => False) (Mod.of_below b5) id; have K1 := h1.keep (S := fun _ => False) (Mod.of_below b5) id; have K2 := h2.keep (S := fun _ => False) (Mod.of_below b5) id; have cn : w5.cell? ⟨g, 0, none⟩ = some (.int .u16 d.n) := K1.cell 0)
            | (refine ldS rfl (.tmp 19) rfl _ rfl d.s K1.sub ?_))
          refine (ytake0 (ovk 0 s d.n d.s) d.s w.heap.size _ K0).mono ?_
          rintro e w6 ⟨rfl, m6, B6⟩
          go_wp2_with fail
          go_roundg (8 - 1)
          case measure => omega
          case rel => exact ⟨1, 1, rfl, rfl, by omega, rfl, bel.trans ((b5.mono bel.size).trans (m6.below (Nat.le_trans bel.size b5.size) (fun k hk => by omega))), by rw [HY.out]; exact B6, K1.keep m6 (by omega), K2.keep m6 (by omega)⟩
        · have hy := ovk_no 0 (by omega) s d.n d.s (Bool.eq_false_iff.2 hb)
          have HY := Lib.hid hy
          have hand : bits .and .u16 (d.n : Int) 1 = 0 := bit_no d.n 0 1 hn (Bool.eq_false_iff.2 hb) rfl (by omega)
          clear hb hy
          go_wp2_with (first
            | (refine wpList_newS rfl rfl 112 6 rfl rfl (.tmp 10) rfl rfl _ alP rowP0 (fun _ => rfl) (fun _ => rfl) iP rfl (by kernel_rfl) ?_; intro w5 b5 B5; have c0 : w5.cell? ⟨wr.heap.size, 0, none⟩ = some (.int .u16 1) := B5.cell 0; have K0 := h0.keep (S := fun _ => False) (Mod.of_below b5) id; have K1 := h1.keep (S := fun _ => False) (Mod.of_below b5) id; have K2 := h2.keep (S := fun _ => False) (Mod.of_below b5) id; have cn : w5.cell? ⟨g, 0, none⟩ = some (.int .u16 d.n) := K1.cell 0))
          go_roundg (8 - 1)
          case measure => omega
          case rel => exact ⟨1, 1, rfl, rfl, by omega, rfl, bel.trans (b5.mono bel.size), by rw [HY.out]; exact K0, K1, K2⟩
      · obtain rfl : z = 1 := by omega
        clear hz hlt3
        have ix : ∀ w, (Instr.index 113 (.agg partsV) (.int .i64 1)).run Tryd.prog w = .ok (.agg rowP1) w := fun _ => by kernel_rfl
        by_cases hb : d.n.testBit 1 = true
        · have hy := ovk_yes 1 (by omega) s d.n d.s hb
          have HY := Lib.hid hy
          have hand : bits .and .u16 (d.n : Int) 2 = 2 := bit_yes d.n 1 2 hn hb rfl (by omega)
          clear hb hy
          go_wp2_with (first
            | (refine wpList_newS rfl rfl 112 6 rfl rfl (.tmp 10) rfl rfl _ alP rowP1 (fun _ => rfl) (fun _ => rfl) iP rfl (by kernel_rfl) ?_; intro w5 b5 B5; have c0 : w5.cell? ⟨wr.heap.size, 0, none⟩ = some (.int .u16 2) := B5.cell 0; have c3 : w5.cell? ⟨wr.heap.size, 3, none⟩ = some (.func (.func 76) #[] #[]) := B5.cell 3; have K0 := h0.keep (S := fun _ => False) (Mod.of_below b5) id; have K1 := h1.keep (S := fun _ => False) (Mod.of_below b5) id; have K2 := h2.keep (S := fun _ => False) (Mod.of_below b5) id; have cn : w5.cell? ⟨g, 0, none⟩ = some (.int .u16 d.n) := K1.cell 0)
            | (refine ldS rfl (.tmp 19) rfl _ rfl d.s K1.sub ?_))
          refine (ytake1 (ovk 1 s d.n d.s) d.s w.heap.size _ K0).mono ?_
          rintro e w6 ⟨rfl, m6, B6⟩
          go_wp2_with fail
          go_roundg (8 - 2)
          case measure => omega
          case rel => exact ⟨2, 2, rfl, rfl, by omega, rfl, bel.trans ((b5.mono bel.size).trans (m6.below (Nat.le_trans bel.size b5.size) (fun k hk => by omega))), by rw [HY.out]; exact B6, K1.keep m6 (by omega), K2.keep m6 (by omega)⟩
        · have hy := ovk_no 1 (by omega) s d.n d.s (Bool.eq_false_iff.2 hb)
          have HY := Lib.hid hy
          have hand : bits .and .u16 (d.n : Int) 2 = 0 := bit_no d.n 1 2 hn (Bool.eq_false_iff.2 hb) rfl (by omega)
          clear hb hy
          go_wp2_with (first
            | (refine wpList_newS rfl rfl 112 6 rfl rfl (.tmp 10) rfl rfl _ alP rowP1 (fun _ => rfl) (fun _ => rfl) iP rfl (by kernel_rfl) ?_; intro w5 b5 B5; have c0 : w5.cell? ⟨wr.heap.size, 0, none⟩ = some (.int .u16 2) := B5.cell 0; have K0 := h0.keep (S := fun _ => False) (Mod.of_below b5) id; have K1 := h1.keep (S := fun _ => False) (Mod.of_below b5) id; have K2 := h2.keep (S := fun _ => False) (Mod.of_below b5) id; have cn : w5.cell? ⟨g, 0, none⟩ = some (.int .u16 d.n) := K1.cell 0))
          go_roundg (8 - 2)
          case measure => omega
          case rel => exact ⟨2, 2, rfl, rfl, by omega, rfl, bel.trans (b5.mono bel.size), by rw [HY.out]; exact K0, K1, K2⟩
      · obtain rfl : z = 2 := by omega
        clear hz hlt3
        have ix : ∀ w, (Instr.index 113 (.agg partsV) (.int .i64 2)).run Tryd.prog w = .ok (.agg rowP2) w := fun _ => by kernel_rfl
        by_cases hb : d.n.testBit 2 = true
        · have hy := ovk_yes 2 (by omega) s d.n d.s hb
          have HY := Lib.hid hy
          have hand : bits .and .u16 (d.n : Int) 4 = 4 := bit_yes d.n 2 4 hn hb rfl (by omega)
          clear hb hy
          go_wp2_with (first
            | (refine wpList_newS rfl rfl 112 6 rfl rfl (.tmp 10) rfl rfl _ alP rowP2 (fun _ => rfl) (fun _ => rfl) iP rfl (by kernel_rfl) ?_; intro w5 b5 B5; have c0 : w5.cell? ⟨wr.heap.size, 0, none⟩ = some (.int .u16 4) := B5.cell 0; have c3 : w5.cell? ⟨wr.heap.size, 3, none⟩ = some (.func (.func 79) #[] #[]) := B5.cell 3; have K0 := h0.keep (S := fun _ => False) (Mod.of_below b5) id; have K1 := h1.keep (S := fun _ => False) (Mod.of_below b5) id; have K2 := h2.keep (S := fun _ => False) (Mod.of_below b5) id; have cn : w5.cell? ⟨g, 0, none⟩ = some (.int .u16 d.n) := K1.cell 0)
            | (refine ldS rfl (.tmp 19) rfl _ rfl d.s K1.sub ?_))
          refine (ytake2 (ovk 2 s d.n d.s) d.s w.heap.size _ K0).mono ?_
          rintro e w6 ⟨rfl, m6, B6⟩
          go_wp2_with fail
          go_roundg (8 - 3)
          case measure => omega
          case rel => exact ⟨3, 3, rfl, rfl, by omega, rfl, bel.trans ((b5.mono bel.size).trans (m6.below (Nat.le_trans bel.size b5.size) (fun k hk => by omega))), by rw [HY.out]; exact B6, K1.keep m6 (by omega), K2.keep m6 (by omega)⟩
        · have hy := ovk_no 2 (by omega) s d.n d.s (Bool.eq_false_iff.2 hb)
          have HY := Lib.hid hy
          have hand : bits .and .u16 (d.n : Int) 4 = 0 := bit_no d.n 2 4 hn (Bool.eq_false_iff.2 hb) rfl (by omega)
          clear hb hy
          go_wp2_with (first
            | (refine wpList_newS rfl rfl 112 6 rfl rfl (.tmp 10) rfl rfl _ alP rowP2 (fun _ => rfl) (fun _ => rfl) iP rfl (by kernel_rfl) ?_; intro w5 b5 B5; have c0 : w5.cell? ⟨wr.heap.size, 0, none⟩ = some (.int .u16 4) := B5.cell 0; have K0 := h0.keep (S := fun _ => False) (Mod.of_below b5) id; have K1 := h1.keep (S := fun _ => False) (Mod.of_below b5) id; have K2 := h2.keep (S := fun _ => False) (Mod.of_below b5) id; have cn : w5.cell? ⟨g, 0, none⟩ = some (.int .u16 d.n) := K1.cell 0))
          go_roundg (8 - 3)
          case measure => omega
          case rel => exact ⟨3, 3, rfl, rfl, by omega, rfl, bel.trans (b5.mono bel.size), by rw [HY.out]; exact K0, K1, K2⟩
      · obtain rfl : z = 3 := by omega
        clear hz hlt3
        have ix : ∀ w, (Instr.index 113 (.agg partsV) (.int .i64 3)).run Tryd.prog w = .ok (.agg rowP3) w := fun _ => by kernel_rfl
        by_cases hb : d.n.testBit 3 = true
        · have hy := ovk_yes 3 (by omega) s d.n d.s hb
          have HY := Lib.hid hy
          have hand : bits .and .u16 (d.n : Int) 8 = 8 := bit_yes d.n 3 8 hn hb rfl (by omega)
          clear hb hy
          go_wp2_with (first
            | (refine wpList_newS rfl rfl 112 6 rfl rfl (.tmp 10) rfl rfl _ alP rowP3 (fun _ => rfl) (fun _ => rfl) iP rfl (by kernel_rfl) ?_; intro w5 b5 B5; have c0 : w5.cell? ⟨wr.heap.size, 0, none⟩ = some (.int .u16 8) := B5.cell 0; have c3 : w5.cell? ⟨wr.heap.size, 3, none⟩ = some (.func (.func 82) #[] #[]) := B5.cell 3; have K0 := h0.keep (S := fun _ => False) (Mod.of_below b5) id; have K1 := h1.keep (S := fun _ => False) (Mod.of_below b5) id; have K2 := h2.keep (S := fun _ => False) (Mod.of_below b5) id; have cn : w5.cell? ⟨g, 0, none⟩ = some (.int .u16 d.n) := K1.cell 0)
            | (refine ldS rfl (.tmp 19) rfl _ rfl d.s K1.sub ?_))
          refine (ytake3 (ovk 3 s d.n d.s) d.s w.heap.size _ K0).mono ?_
          rintro e w6 ⟨rfl, m6, B6⟩
          go_wp2_with fail
          go_roundg (8 - 4)
          case measure => omega
          case rel => exact ⟨4, 4, rfl, rfl, by omega, rfl, bel.trans ((b5.mono bel.size).trans (m6.below (Nat.le_trans bel.size b5.size) (fun k hk => by omega))), by rw [HY.out]; exact B6, K1.keep m6 (by omega), K2.keep m6 (by omega)⟩
        · have hy := ovk_no 3 (by omega) s d.n d.s (Bool.eq_false_iff.2 hb)
          have HY := Lib.hid hy
          have hand : bits .and .u16 (d.n : Int) 8 = 0 := bit_no d.n 3 8 hn (Bool.eq_false_iff.2 hb) rfl (by omega)
          clear hb hy
          go_wp2_with (first
            | (refine wpList_newS rfl rfl 112 6 rfl rfl (.tmp 10) rfl rfl _ alP rowP3 (fun _ => rfl) (fun _ => rfl) iP rfl (by kernel_rfl) ?_; intro w5 b5 B5; have c0 : w5.cell? ⟨wr.heap.size, 0, none⟩ = some (.int .u16 8) := B5.cell 0; have K0 := h0.keep (S := fun _ => False) (Mod.of_below b5) id; have K1 := h1.keep (S := fun _ => False) (Mod.of_below b5) id; have K2 := h2.keep (S := fun _ => False) (Mod.of_below b5) id; have cn : w5.cell? ⟨g, 0, none⟩ = some (.int .u16 d.n) := K1.cell 0))
          go_roundg (8 - 4)
          case measure => omega
          case rel => exact ⟨4, 4, rfl, rfl, by omega, rfl, bel.trans (b5.mono bel.size), by rw [HY.out]; exact K0, K1, K2⟩
      · obtain rfl : z = 4 := by omega
        clear hz hlt3
        have ix : ∀ w, (Instr.index 113 (.agg partsV) (.int .i64 4)).run Tryd.prog w = .ok (.agg rowP4) w := fun _ => by kernel_rfl
        by_cases hb : d.n.testBit 4 = true
        · have hy := ovk_yes 4 (by omega) s d.n d.s hb
          have HY := Lib.hid hy
          have hand : bits .and .u16 (d.n : Int) 16 = 16 := bit_yes d.n 4 16 hn hb rfl (by omega)
          clear hb hy
          go_wp2_with (first
            | (refine wpList_newS rfl rfl 112 6 rfl rfl (.tmp 10) rfl rfl _ alP rowP4 (fun _ => rfl) (fun _ => rfl) iP rfl (by kernel_rfl) ?_; intro w5 b5 B5; have c0 : w5.cell? ⟨wr.heap.size, 0, none⟩ = some (.int .u16 16) := B5.cell 0; have c3 : w5.cell? ⟨wr.heap.size, 3, none⟩ = some (.func (.func 85) #[] #[]) := B5.cell 3; have K0 := h0.keep (S := fun _ => False) (Mod.of_below b5) id; have K1 := h1.keep (S := fun _ => False) (Mod.of_below b5) id; have K2 := h2.keep (S := fun _ => False) (Mod.of_below b5) id; have cn : w5.cell? ⟨g, 0, none⟩ = some (.int .u16 d.n) := K1.cell 0)
            | (refine ldS rfl (.tmp 19) rfl _ rfl d.s K1.sub ?_))
          refine (ytake4 (ovk 4 s d.n d.s) d.s w.heap.size _ K0).mono ?_
          rintro e w6 ⟨rfl, m6, B6⟩
          go_wp2_with fail
          go_roundg (8 - 5)
          case measure => omega
          case rel => exact ⟨5, 5, rfl, rfl, by omega, rfl, bel.trans ((b5.mono bel.size).trans (m6.below (Nat.le_trans bel.size b5.size) (fun k hk => by omega))), by rw [HY.out]; exact B6, K1.keep m6 (by omega), K2.keep m6 (by omega)⟩
        · have hy := ovk_no 4 (by omega) s d.n d.s (Bool.eq_false_iff.2 hb)
          have HY := Lib.hid hy
          have hand : bits .and .u16 (d.n : Int) 16 = 0 := bit_no d.n 4 16 hn (Bool.eq_false_iff.2 hb) rfl (by omega)
          clear hb hy
          go_wp2_with (first
            | (refine wpList_newS rfl rfl 112 6 rfl rfl (.tmp 10) rfl rfl _ alP rowP4 (fun _ => rfl) (fun _ => rfl) iP rfl (by kernel_rfl) ?_; intro w5 b5 B5; have c0 : w5.cell? ⟨wr.heap.size, 0, none⟩ = some (.int .u16 16) := B5.cell 0; have K0 := h0.keep (S := fun _ => False) (Mod.of_below b5) id; have K1 := h1.keep (S := fun _ => False) (Mod.of_below b5) id; have K2 := h2.keep (S := fun _ => False) (Mod.of_below b5) id; have cn : w5.cell? ⟨g, 0, none⟩ = some (.int .u16 d.n) := K1.cell 0))
          go_roundg (8 - 5)
          case measure => omega
          case rel => exact ⟨5, 5, rfl, rfl, by omega, rfl, bel.trans (b5.mono bel.size), by rw [HY.out]; exact K0, K1, K2⟩
      · obtain rfl : z = 5 := by omega
        clear hz hlt3
        have ix : ∀ w, (Instr.index 113 (.agg partsV) (.int .i64 5)).run Tryd.prog w = .ok (.agg rowP5) w := fun _ => by kernel_rfl
        by_cases hb : d.n.testBit 5 = true
        · have hy := ovk_yes 5 (by omega) s d.n d.s hb
          have HY := Lib.hid hy
          have hand : bits .and .u16 (d.n : Int) 32 = 32 := bit_yes d.n 5 32 hn hb rfl (by omega)
          clear hb hy
          go_wp2_with (first
            | (refine wpList_newS rfl rfl 112 6 rfl rfl (.tmp 10) rfl rfl _ alP rowP5 (fun _ => rfl) (fun _ => rfl) iP rfl (by kernel_rfl) ?_; intro w5 b5 B5; have c0 : w5.cell? ⟨wr.heap.size, 0, none⟩ = some (.int .u16 32) := B5.cell 0; have c3 : w5.cell? ⟨wr.heap.size, 3, none⟩ = some (.func (.func 88) #[] #[]) := B5.cell 3; have K0 := h0.keep (S := fun _ => False) (Mod.of_below b5) id; have K1 := h1.keep (S := fun _ => False) (Mod.of_below b5) id; have K2 := h2.keep (S := fun _ => False) (Mod.of_below b5) id; have cn : w5.cell? ⟨g, 0, none⟩ = some (.int .u16 d.n) := K1.cell 0)
            | (refine ldS rfl (.tmp 19) rfl _ rfl d.s K1.sub ?_))
          refine (ytake5 (ovk 5 s d.n d.s) d.s w.heap.size _ K0).mono ?_
          rintro e w6 ⟨rfl, m6, B6⟩
          go_wp2_with fail
          go_roundg (8 - 6)
          case measure => omega
          case rel => exact ⟨6, 6, rfl, rfl, by omega, rfl, bel.trans ((b5.mono bel.size).trans (m6.below (Nat.le_trans bel.size b5.size) (fun k hk => by omega))), by rw [HY.out]; exact B6, K1.keep m6 (by omega), K2.keep m6 (by omega)⟩
        · have hy := ovk_no 5 (by omega) s d.n d.s (Bool.eq_false_iff.2 hb)
          have HY := Lib.hid hy
          have hand : bits .and .u16 (d.n : Int) 32 = 0 := bit_no d.n 5 32 hn (Bool.eq_false_iff.2 hb) rfl (by omega)
          clear hb hy
          go_wp2_with (first
            | (refine wpList_newS rfl rfl 112 6 rfl rfl (.tmp 10) rfl rfl _ alP rowP5 (fun _ => rfl) (fun _ => rfl) iP rfl (by kernel_rfl) ?_; intro w5 b5 B5; have c0 : w5.cell? ⟨wr.heap.size, 0, none⟩ = some (.int .u16 32) := B5.cell 0; have K0 := h0.keep (S := fun _ => False) (Mod.of_below b5) id; have K1 := h1.keep (S := fun _ => False) (Mod.of_below b5) id; have K2 := h2.keep (S := fun _ => False) (Mod.of_below b5) id; have cn : w5.cell? ⟨g, 0, none⟩ = some (.int .u16 d.n) := K1.cell 0))
          go_roundg (8 - 6)
          case measure => omega
          case rel => exact ⟨6, 6, rfl, rfl, by omega, rfl, bel.trans (b5.mono bel.size), by rw [HY.out]; exact K0, K1, K2⟩
      · obtain rfl : z = 6 := by omega
        clear hz hlt3
        have ix : ∀ w, (Instr.index 113 (.agg partsV) (.int .i64 6)).run Tryd.prog w = .ok (.agg rowP6) w := fun _ => by kernel_rfl
        by_cases hb : d.n.testBit 6 = true
        · have hy := ovk_yes 6 (by omega) s d.n d.s hb
          have HY := Lib.hid hy
          have hand : bits .and .u16 (d.n : Int) 64 = 64 := bit_yes d.n 6 64 hn hb rfl (by omega)
          clear hb hy
          go_wp2_with (first
            | (refine wpList_newS rfl rfl 112 6 rfl rfl (.tmp 10) rfl rfl _ alP rowP6 (fun _ => rfl) (fun _ => rfl) iP rfl (by kernel_rfl) ?_; intro w5 b5 B5; have c0 : w5.cell? ⟨wr.heap.size, 0, none⟩ = some (.int .u16 64) := B5.cell 0; have c3 : w5.cell? ⟨wr.heap.size, 3, none⟩ = some (.func (.func 92) #[] #[]) := B5.cell 3; have K0 := h0.keep (S := fun _ => False) (Mod.of_below b5) id; have K1 := h1.keep (S := fun _ => False) (Mod.of_below b5) id; have K2 := h2.keep (S := fun _ => False) (Mod.of_below b5) id; have cn : w5.cell? ⟨g, 0, none⟩ = some (.int .u16 d.n) := K1.cell 0)
            | (refine ldS rfl (.tmp 19) rfl _ rfl d.s K1.sub ?_))
          refine (ytake6 (ovk 6 s d.n d.s) d.s w.heap.size _ K0).mono ?_
          rintro e w6 ⟨rfl, m6, B6⟩
          go_wp2_with fail
          go_roundg (8 - 7)
          case measure => omega
          case rel => exact ⟨7, 7, rfl, rfl, by omega, rfl, bel.trans ((b5.mono bel.size).trans (m6.below (Nat.le_trans bel.size b5.size) (fun k hk => by omega))), by rw [HY.out]; exact B6, K1.keep m6 (by omega), K2.keep m6 (by omega)⟩
        · have hy := ovk_no 6 (by omega) s d.n d.s (Bool.eq_false_iff.2 hb)
          have HY := Lib.hid hy
          have hand : bits .and .u16 (d.n : Int) 64 = 0 := bit_no d.n 6 64 hn (Bool.eq_false_iff.2 hb) rfl (by omega)
          clear hb hy
          go_wp2_with (first
            | (refine wpList_newS rfl rfl 112 6 rfl rfl (.tmp 10) rfl rfl _ alP rowP6 (fun _ => rfl) (fun _ => rfl) iP rfl (by kernel_rfl) ?_; intro w5 b5 B5; have c0 : w5.cell? ⟨wr.heap.size, 0, none⟩ = some (.int .u16 64) := B5.cell 0; have K0 := h0.keep (S := fun _ => False) (Mod.of_below b5) id; have K1 := h1.keep (S := fun _ => False) (Mod.of_below b5) id; have K2 := h2.keep (S := fun _ => False) (Mod.of_below b5) id; have cn : w5.cell? ⟨g, 0, none⟩ = some (.int .u16 d.n) := K1.cell 0))
          go_roundg (8 - 7)
          case measure => omega
          case rel => exact ⟨7, 7, rfl, rfl, by omega, rfl, bel.trans (b5.mono bel.size), by rw [HY.out]; exact K0, K1, K2⟩
      · obtain rfl : z = 7 := by omega
        clear hz hlt3
        have ix : ∀ w, (Instr.index 113 (.agg partsV) (.int .i64 7)).run Tryd.prog w = .ok (.agg rowP7) w := fun _ => by kernel_rfl
        by_cases hb : d.n.testBit 7 = true
        · have hy := ovk_yes 7 (by omega) s d.n d.s hb
          have HY := Lib.hid hy
          have hand : bits .and .u16 (d.n : Int) 128 = 128 := bit_yes d.n 7 128 hn hb rfl (by omega)
          clear hb hy
          go_wp2_with (first
            | (refine wpList_newS rfl rfl 112 6 rfl rfl (.tmp 10) rfl rfl _ alP rowP7 (fun _ => rfl) (fun _ => rfl) iP rfl (by kernel_rfl) ?_; intro w5 b5 B5; have c0 : w5.cell? ⟨wr.heap.size, 0, none⟩ = some (.int .u16 128) := B5.cell 0; have c3 : w5.cell? ⟨wr.heap.size, 3, none⟩ = some (.func (.func 95) #[] #[]) := B5.cell 3; have K0 := h0.keep (S := fun _ => False) (Mod.of_below b5) id; have K1 := h1.keep (S := fun _ => False) (Mod.of_below b5) id; have K2 := h2.keep (S := fun _ => False) (Mod.of_below b5) id; have cn : w5.cell? ⟨g, 0, none⟩ = some (.int .u16 d.n) := K1.cell 0)
            | (refine ldS rfl (.tmp 19) rfl _ rfl d.s K1.sub ?_))
          refine (ytake7 (ovk 7 s d.n d.s) d.s w.heap.size _ K0).mono ?_
          rintro e w6 ⟨rfl, m6, B6⟩
          go_wp2_with fail
          go_roundg (8 - 8)
          case measure => omega
          case rel => exact ⟨8, 8, rfl, rfl, by omega, rfl, bel.trans ((b5.mono bel.size).trans (m6.below (Nat.le_trans bel.size b5.size) (fun k hk => by omega))), by rw [HY.out]; exact B6, K1.keep m6 (by omega), K2.keep m6 (by omega)⟩
        · have hy := ovk_no 7 (by omega) s d.n d.s (Bool.eq_false_iff.2 hb)
          have HY := Lib.hid hy
          have hand : bits .and .u16 (d.n : Int) 128 = 0 := bit_no d.n 7 128 hn (Bool.eq_false_iff.2 hb) rfl (by omega)
          clear hb hy
          go_wp2_with (first
            | (refine wpList_newS rfl rfl 112 6 rfl rfl (.tmp 10) rfl rfl _ alP rowP7 (fun _ => rfl) (fun _ => rfl) iP rfl (by kernel_rfl) ?_; intro w5 b5 B5; have c0 : w5.cell? ⟨wr.heap.size, 0, none⟩ = some (.int .u16 128) := B5.cell 0; have K0 := h0.keep (S := fun _ => False) (Mod.of_below b5) id; have K1 := h1.keep (S := fun _ => False) (Mod.of_below b5) id; have K2 := h2.keep (S := fun _ => False) (Mod.of_below b5) id; have cn : w5.cell? ⟨g, 0, none⟩ = some (.int .u16 d.n) := K1.cell 0))
          go_roundg (8 - 8)
          case measure => omega
          case rel => exact ⟨8, 8, rfl, rfl, by omega, rfl, bel.trans (b5.mono bel.size), by rw [HY.out]; exact K0, K1, K2⟩
    · obtain rfl : k = 8 := by omega
      obtain rfl : z = 8 := by omega
      clear hz hlt3 hk
      have h3 : Blk wr w.heap.size 31 (over s d).cells := h0
      clear h0
      go_wp2_with (first
        | (refine ldS rfl (.tmp 2) rfl _ rfl (over s d) h3.lies ?_)
        | (refine stS rfl (.tmp 4) (.tmp 23) rfl rfl _ rfl (over s d) rfl .zero h2 ?_; intro w6 m6 B6))
      refine bodyPost_ret (v := .agg (over s d).cells) (res_row rfl _ _ g2 31 _ _ rfl B6 uS rfl iS) rfl ⟨rfl, bel.trans (m6.below bel.size (fun k hk => by omega))⟩
end Go.Proofs.YtgpobhnonjdamaaDoor
