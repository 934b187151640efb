/- Contracts of layers below. -/
import Derived.Test.YtmceblkjbpbcoaaGreatDoorPY3
import Derived.Test.YtmceblkjbpbcoaaGreatDoorPRowF
import Derived.Test.YtmceblkjbpbcoaaGreatDoorPYLaws
import Derived.ChangeOld
namespace Go.Proofs.YtmceblkjbpbcoaaGreatDoor
set_option maxRecDepth 100000
set_option maxHeartbeats 8000000
open Go.ChangeShapes Go.WideShapes Go.ChangeAt Go.RowKit
section
theorem qm8 (s : Sty) (d : Dcl) (w : World) (hn : d.n < 65536) :
 Calls Tryz.prog 135 #[.agg s.cells, .agg d.cells] w fun e w' => e = .returned (.agg (over s d).cells) /\ Below w.heap.size w w' := by
 go_enter Tryz.func135, Tryz.ntmps135
 go_wp2_with (first
  | (refine bxSV rfl (.tmp 0) rfl s rfl ?_; intro w1 b1 B1)
  | (refine bxDV rfl (.tmp 1) rfl d rfl ?_; intro w2 b2 B2)
  | (refine alSV rfl rfl ?_; intro w3 b3 B3))
 refine (qg3 _).mono ?_
 rintro e w4 ⟨rfl, b4⟩
 have hlt : w.heap.size < w1.heap.size := B1.lt
 have hlt2 : w1.heap.size < w2.heap.size := B2.lt
 have A0 : Blk w4 w.heap.size 44 (ovk 0 s d.n d.s).cells := quv s d.n d.s ▸ ((B1.kb b2).kb b3).kb b4
 have A1 : Blk w4 w1.heap.size 46 d.cells := (B2.kb b3).kb b4
 have A2 : Blk w4 w2.heap.size 44 Sty.zero.cells := B3.kb b4
 have b04 := xaq (xaq (xaq b1 b2) b3) b4
 clear b1 B1 b2 B2 b3 B3 b4
 obtain ⟨g, hg⟩ : ∃ g, w1.heap.size = g := ⟨_, rfl⟩
 obtain ⟨g2, hg2⟩ : ∃ g, w2.heap.size = g := ⟨_, rfl⟩
 rw [hg] at hlt hlt2 A1 |-
 rw [hg2] at hlt2 A2 |-
 clear hg hg2
 go_wp2_with fail
 go_loopg [8] 8 (fun kx s8 wr => ∃ (k : Nat) (z : Int), z = k /\ s8 = .int .i64 z /\ k <= 8 /\ kx = 8 - k /\ Below w.heap.size w wr /\ Blk wr w.heap.size 44 (ovk k s d.n d.s).cells /\ Blk wr g 46 d.cells /\ Blk wr g2 44 Sty.zero.cells)
 case atStart => exact ⟨0, 0, rfl, rfl, by omega, rfl, b04, A0, A1, A2⟩
 case round =>
  obtain ⟨k, z, hz, rfl, hk, rfl, bel, h0, h1, h2⟩ := hrel
  clear A0 A1 A2 b04
  by_cases hlt3 : k < 8
  ·clear hk
   rcases (show k = 0 \/ k = 1 \/ k = 2 \/ k = 3 \/ k = 4 \/ k = 5 \/ k = 6 \/ k = 7 from by omega) with rfl | rfl | rfl | rfl | rfl | rfl | rfl | rfl
   ·obtain rfl : z = 0 := by omega
    clear hz hlt3
    have ix : ∀ w, (Instr.index 248 (.agg qbd) (.int .i64 0)).run Tryz.prog w = .ok (.agg qnu) w := fun _ => by kernel_rfl
    by_cases hb : d.n.testBit 0 = true
    ·have hy := qcv 0 (by omega) s d.n d.s hb
     have HY := xaa hy
     have hand : bits .and .u16 (d.n : Int) 1 = 1 := qc7 d.n 0 1 hn hb rfl (by omega)
     clear hb hy
     go_wp2_with (first
      | (refine qab rfl rfl 247 6 rfl rfl (.tmp 10) rfl rfl _ alP qnu (fun _ => rfl) (fun _ => rfl) iP rfl (by kernel_rfl) ?_; intro w5 b5 B5; have c0 : w5.cell? ⟨wr.heap.size, 0, none⟩ = some (.int .u16 1) := B5.cell 0; have c3 : w5.cell? ⟨wr.heap.size, 3, none⟩ = some (.func (.func 185) #[] #[]) := B5.cell 3; have K0 := h0.kb b5; have K1 := h1.kb b5; have K2 := h2.kb b5; have cn : w5.cell? ⟨g, 0, none⟩ = some (.int .u16 d.n) := K1.cell 0)
      | (refine ldS rfl (.tmp 19) rfl _ rfl d.s K1.sub ?_))
     refine (ytake0 (ovk 0 s d.n d.s) d.s w.heap.size _ K0).mono ?_
     rintro e w6 ⟨rfl, m6, B6⟩
     go_wp2_with fail
     go_roundg (8 - 1)
     case measure => omega
     case rel => exact ⟨1, 1, rfl, rfl, by omega, rfl, bel.trans ((b5.mono bel.size).trans (m6.below (xau bel.size b5.size) (fun k hk => by omega))), by rw [HY.out]; exact B6, K1.keep m6 (by omega), K2.keep m6 (by omega)⟩
    ·have hy := qe0 0 (by omega) s d.n d.s (Bool.eq_false_iff.2 hb)
     have HY := xaa hy
     have hand : bits .and .u16 (d.n : Int) 1 = 0 := qe8 d.n 0 1 hn (Bool.eq_false_iff.2 hb) rfl (by omega)
     clear hb hy
     go_wp2_with (first
      | (refine qab rfl rfl 247 6 rfl rfl (.tmp 10) rfl rfl _ alP qnu (fun _ => rfl) (fun _ => rfl) iP rfl (by kernel_rfl) ?_; intro w5 b5 B5; have c0 : w5.cell? ⟨wr.heap.size, 0, none⟩ = some (.int .u16 1) := B5.cell 0; have K0 := h0.kb b5; have K1 := h1.kb b5; have K2 := h2.kb b5; have cn : w5.cell? ⟨g, 0, none⟩ = some (.int .u16 d.n) := K1.cell 0))
     go_roundg (8 - 1)
     case measure => omega
     case rel => exact ⟨1, 1, rfl, rfl, by omega, rfl, bel.trans (b5.mono bel.size), by rw [HY.out]; exact K0, K1, K2⟩
   ·obtain rfl : z = 1 := by omega
    clear hz hlt3
    have ix : ∀ w, (Instr.index 248 (.agg qbd) (.int .i64 1)).run Tryz.prog w = .ok (.agg qnt) w := fun _ => by kernel_rfl
    by_cases hb : d.n.testBit 1 = true
    ·have hy := qcv 1 (by omega) s d.n d.s hb
     have HY := xaa hy
     have hand : bits .and .u16 (d.n : Int) 2 = 2 := qc7 d.n 1 2 hn hb rfl (by omega)
     clear hb hy
     go_wp2_with (first
      | (refine qab rfl rfl 247 6 rfl rfl (.tmp 10) rfl rfl _ alP qnt (fun _ => rfl) (fun _ => rfl) iP rfl (by kernel_rfl) ?_; intro w5 b5 B5; have c0 : w5.cell? ⟨wr.heap.size, 0, none⟩ = some (.int .u16 2) := B5.cell 0; have c3 : w5.cell? ⟨wr.heap.size, 3, none⟩ = some (.func (.func 188) #[] #[]) := B5.cell 3; have K0 := h0.kb b5; have K1 := h1.kb b5; have K2 := h2.kb b5; have cn : w5.cell? ⟨g, 0, none⟩ = some (.int .u16 d.n) := K1.cell 0)
      | (refine ldS rfl (.tmp 19) rfl _ rfl d.s K1.sub ?_))
     refine (ytake1 (ovk 1 s d.n d.s) d.s w.heap.size _ K0).mono ?_
     rintro e w6 ⟨rfl, m6, B6⟩
     go_wp2_with fail
     go_roundg (8 - 2)
     case measure => omega
     case rel => exact ⟨2, 2, rfl, rfl, by omega, rfl, bel.trans ((b5.mono bel.size).trans (m6.below (xau bel.size b5.size) (fun k hk => by omega))), by rw [HY.out]; exact B6, K1.keep m6 (by omega), K2.keep m6 (by omega)⟩
    ·have hy := qe0 1 (by omega) s d.n d.s (Bool.eq_false_iff.2 hb)
     have HY := xaa hy
     have hand : bits .and .u16 (d.n : Int) 2 = 0 := qe8 d.n 1 2 hn (Bool.eq_false_iff.2 hb) rfl (by omega)
     clear hb hy
     go_wp2_with (first
      | (refine qab rfl rfl 247 6 rfl rfl (.tmp 10) rfl rfl _ alP qnt (fun _ => rfl) (fun _ => rfl) iP rfl (by kernel_rfl) ?_; intro w5 b5 B5; have c0 : w5.cell? ⟨wr.heap.size, 0, none⟩ = some (.int .u16 2) := B5.cell 0; have K0 := h0.kb b5; have K1 := h1.kb b5; have K2 := h2.kb b5; have cn : w5.cell? ⟨g, 0, none⟩ = some (.int .u16 d.n) := K1.cell 0))
     go_roundg (8 - 2)
     case measure => omega
     case rel => exact ⟨2, 2, rfl, rfl, by omega, rfl, bel.trans (b5.mono bel.size), by rw [HY.out]; exact K0, K1, K2⟩
   ·obtain rfl : z = 2 := by omega
    clear hz hlt3
    have ix : ∀ w, (Instr.index 248 (.agg qbd) (.int .i64 2)).run Tryz.prog w = .ok (.agg qns) w := fun _ => by kernel_rfl
    by_cases hb : d.n.testBit 2 = true
    ·have hy := qcv 2 (by omega) s d.n d.s hb
     have HY := xaa hy
     have hand : bits .and .u16 (d.n : Int) 4 = 4 := qc7 d.n 2 4 hn hb rfl (by omega)
     clear hb hy
     go_wp2_with (first
      | (refine qab rfl rfl 247 6 rfl rfl (.tmp 10) rfl rfl _ alP qns (fun _ => rfl) (fun _ => rfl) iP rfl (by kernel_rfl) ?_; intro w5 b5 B5; have c0 : w5.cell? ⟨wr.heap.size, 0, none⟩ = some (.int .u16 4) := B5.cell 0; have c3 : w5.cell? ⟨wr.heap.size, 3, none⟩ = some (.func (.func 191) #[] #[]) := B5.cell 3; have K0 := h0.kb b5; have K1 := h1.kb b5; have K2 := h2.kb b5; have cn : w5.cell? ⟨g, 0, none⟩ = some (.int .u16 d.n) := K1.cell 0)
      | (refine ldS rfl (.tmp 19) rfl _ rfl d.s K1.sub ?_))
     refine (ytake2 (ovk 2 s d.n d.s) d.s w.heap.size _ K0).mono ?_
     rintro e w6 ⟨rfl, m6, B6⟩
     go_wp2_with fail
     go_roundg (8 - 3)
     case measure => omega
     case rel => exact ⟨3, 3, rfl, rfl, by omega, rfl, bel.trans ((b5.mono bel.size).trans (m6.below (xau bel.size b5.size) (fun k hk => by omega))), by rw [HY.out]; exact B6, K1.keep m6 (by omega), K2.keep m6 (by omega)⟩
    ·have hy := qe0 2 (by omega) s d.n d.s (Bool.eq_false_iff.2 hb)
     have HY := xaa hy
     have hand : bits .and .u16 (d.n : Int) 4 = 0 := qe8 d.n 2 4 hn (Bool.eq_false_iff.2 hb) rfl (by omega)
     clear hb hy
     go_wp2_with (first
      | (refine qab rfl rfl 247 6 rfl rfl (.tmp 10) rfl rfl _ alP qns (fun _ => rfl) (fun _ => rfl) iP rfl (by kernel_rfl) ?_; intro w5 b5 B5; have c0 : w5.cell? ⟨wr.heap.size, 0, none⟩ = some (.int .u16 4) := B5.cell 0; have K0 := h0.kb b5; have K1 := h1.kb b5; have K2 := h2.kb b5; have cn : w5.cell? ⟨g, 0, none⟩ = some (.int .u16 d.n) := K1.cell 0))
     go_roundg (8 - 3)
     case measure => omega
     case rel => exact ⟨3, 3, rfl, rfl, by omega, rfl, bel.trans (b5.mono bel.size), by rw [HY.out]; exact K0, K1, K2⟩
   ·obtain rfl : z = 3 := by omega
    clear hz hlt3
    have ix : ∀ w, (Instr.index 248 (.agg qbd) (.int .i64 3)).run Tryz.prog w = .ok (.agg qnr) w := fun _ => by kernel_rfl
    by_cases hb : d.n.testBit 3 = true
    ·have hy := qcv 3 (by omega) s d.n d.s hb
     have HY := xaa hy
     have hand : bits .and .u16 (d.n : Int) 8 = 8 := qc7 d.n 3 8 hn hb rfl (by omega)
     clear hb hy
     go_wp2_with (first
      | (refine qab rfl rfl 247 6 rfl rfl (.tmp 10) rfl rfl _ alP qnr (fun _ => rfl) (fun _ => rfl) iP rfl (by kernel_rfl) ?_; intro w5 b5 B5; have c0 : w5.cell? ⟨wr.heap.size, 0, none⟩ = some (.int .u16 8) := B5.cell 0; have c3 : w5.cell? ⟨wr.heap.size, 3, none⟩ = some (.func (.func 194) #[] #[]) := B5.cell 3; have K0 := h0.kb b5; have K1 := h1.kb b5; have K2 := h2.kb b5; have cn : w5.cell? ⟨g, 0, none⟩ = some (.int .u16 d.n) := K1.cell 0)
      | (refine ldS rfl (.tmp 19) rfl _ rfl d.s K1.sub ?_))
     refine (ytake3 (ovk 3 s d.n d.s) d.s w.heap.size _ K0).mono ?_
     rintro e w6 ⟨rfl, m6, B6⟩
     go_wp2_with fail
     go_roundg (8 - 4)
     case measure => omega
     case rel => exact ⟨4, 4, rfl, rfl, by omega, rfl, bel.trans ((b5.mono bel.size).trans (m6.below (xau bel.size b5.size) (fun k hk => by omega))), by rw [HY.out]; exact B6, K1.keep m6 (by omega), K2.keep m6 (by omega)⟩
    ·have hy := qe0 3 (by omega) s d.n d.s (Bool.eq_false_iff.2 hb)
     have HY := xaa hy
     have hand : bits .and .u16 (d.n : Int) 8 = 0 := qe8 d.n 3 8 hn (Bool.eq_false_iff.2 hb) rfl (by omega)
     clear hb hy
     go_wp2_with (first
      | (refine qab rfl rfl 247 6 rfl rfl (.tmp 10) rfl rfl _ alP qnr (fun _ => rfl) (fun _ => rfl) iP rfl (by kernel_rfl) ?_; intro w5 b5 B5; have c0 : w5.cell? ⟨wr.heap.size, 0, none⟩ = some (.int .u16 8) := B5.cell 0; have K0 := h0.kb b5; have K1 := h1.kb b5; have K2 := h2.kb b5; have cn : w5.cell? ⟨g, 0, none⟩ = some (.int .u16 d.n) := K1.cell 0))
     go_roundg (8 - 4)
     case measure => omega
     case rel => exact ⟨4, 4, rfl, rfl, by omega, rfl, bel.trans (b5.mono bel.size), by rw [HY.out]; exact K0, K1, K2⟩
   ·obtain rfl : z = 4 := by omega
    clear hz hlt3
    have ix : ∀ w, (Instr.index 248 (.agg qbd) (.int .i64 4)).run Tryz.prog w = .ok (.agg qnq) w := fun _ => by kernel_rfl
    by_cases hb : d.n.testBit 4 = true
    ·have hy := qcv 4 (by omega) s d.n d.s hb
     have HY := xaa hy
     have hand : bits .and .u16 (d.n : Int) 16 = 16 := qc7 d.n 4 16 hn hb rfl (by omega)
     clear hb hy
     go_wp2_with (first
      | (refine qab rfl rfl 247 6 rfl rfl (.tmp 10) rfl rfl _ alP qnq (fun _ => rfl) (fun _ => rfl) iP rfl (by kernel_rfl) ?_; intro w5 b5 B5; have c0 : w5.cell? ⟨wr.heap.size, 0, none⟩ = some (.int .u16 16) := B5.cell 0; have c3 : w5.cell? ⟨wr.heap.size, 3, none⟩ = some (.func (.func 197) #[] #[]) := B5.cell 3; have K0 := h0.kb b5; have K1 := h1.kb b5; have K2 := h2.kb b5; have cn : w5.cell? ⟨g, 0, none⟩ = some (.int .u16 d.n) := K1.cell 0)
      | (refine ldS rfl (.tmp 19) rfl _ rfl d.s K1.sub ?_))
     refine (ytake4 (ovk 4 s d.n d.s) d.s w.heap.size _ K0).mono ?_
     rintro e w6 ⟨rfl, m6, B6⟩
     go_wp2_with fail
     go_roundg (8 - 5)
     case measure => omega
     case rel => exact ⟨5, 5, rfl, rfl, by omega, rfl, bel.trans ((b5.mono bel.size).trans (m6.below (xau bel.size b5.size) (fun k hk => by omega))), by rw [HY.out]; exact B6, K1.keep m6 (by omega), K2.keep m6 (by omega)⟩
    ·have hy := qe0 4 (by omega) s d.n d.s (Bool.eq_false_iff.2 hb)
     have HY := xaa hy
     have hand : bits .and .u16 (d.n : Int) 16 = 0 := qe8 d.n 4 16 hn (Bool.eq_false_iff.2 hb) rfl (by omega)
     clear hb hy
     go_wp2_with (first
      | (refine qab rfl rfl 247 6 rfl rfl (.tmp 10) rfl rfl _ alP qnq (fun _ => rfl) (fun _ => rfl) iP rfl (by kernel_rfl) ?_; intro w5 b5 B5; have c0 : w5.cell? ⟨wr.heap.size, 0, none⟩ = some (.int .u16 16) := B5.cell 0; have K0 := h0.kb b5; have K1 := h1.kb b5; have K2 := h2.kb b5; have cn : w5.cell? ⟨g, 0, none⟩ = some (.int .u16 d.n) := K1.cell 0))
     go_roundg (8 - 5)
     case measure => omega
     case rel => exact ⟨5, 5, rfl, rfl, by omega, rfl, bel.trans (b5.mono bel.size), by rw [HY.out]; exact K0, K1, K2⟩
   ·obtain rfl : z = 5 := by omega
    clear hz hlt3
    have ix : ∀ w, (Instr.index 248 (.agg qbd) (.int .i64 5)).run Tryz.prog w = .ok (.agg qnp) w := fun _ => by kernel_rfl
    by_cases hb : d.n.testBit 5 = true
    ·have hy := qcv 5 (by omega) s d.n d.s hb
     have HY := xaa hy
     have hand : bits .and .u16 (d.n : Int) 32 = 32 := qc7 d.n 5 32 hn hb rfl (by omega)
     clear hb hy
     go_wp2_with (first
      | (refine qab rfl rfl 247 6 rfl rfl (.tmp 10) rfl rfl _ alP qnp (fun _ => rfl) (fun _ => rfl) iP rfl (by kernel_rfl) ?_; intro w5 b5 B5; have c0 : w5.cell? ⟨wr.heap.size, 0, none⟩ = some (.int .u16 32) := B5.cell 0; have c3 : w5.cell? ⟨wr.heap.size, 3, none⟩ = some (.func (.func 200) #[] #[]) := B5.cell 3; have K0 := h0.kb b5; have K1 := h1.kb b5; have K2 := h2.kb b5; have cn : w5.cell? ⟨g, 0, none⟩ = some (.int .u16 d.n) := K1.cell 0)
      | (refine ldS rfl (.tmp 19) rfl _ rfl d.s K1.sub ?_))
     refine (ytake5 (ovk 5 s d.n d.s) d.s w.heap.size _ K0).mono ?_
     rintro e w6 ⟨rfl, m6, B6⟩
     go_wp2_with fail
     go_roundg (8 - 6)
     case measure => omega
     case rel => exact ⟨6, 6, rfl, rfl, by omega, rfl, bel.trans ((b5.mono bel.size).trans (m6.below (xau bel.size b5.size) (fun k hk => by omega))), by rw [HY.out]; exact B6, K1.keep m6 (by omega), K2.keep m6 (by omega)⟩
    ·have hy := qe0 5 (by omega) s d.n d.s (Bool.eq_false_iff.2 hb)
     have HY := xaa hy
     have hand : bits .and .u16 (d.n : Int) 32 = 0 := qe8 d.n 5 32 hn (Bool.eq_false_iff.2 hb) rfl (by omega)
     clear hb hy
     go_wp2_with (first
      | (refine qab rfl rfl 247 6 rfl rfl (.tmp 10) rfl rfl _ alP qnp (fun _ => rfl) (fun _ => rfl) iP rfl (by kernel_rfl) ?_; intro w5 b5 B5; have c0 : w5.cell? ⟨wr.heap.size, 0, none⟩ = some (.int .u16 32) := B5.cell 0; have K0 := h0.kb b5; have K1 := h1.kb b5; have K2 := h2.kb b5; have cn : w5.cell? ⟨g, 0, none⟩ = some (.int .u16 d.n) := K1.cell 0))
     go_roundg (8 - 6)
     case measure => omega
     case rel => exact ⟨6, 6, rfl, rfl, by omega, rfl, bel.trans (b5.mono bel.size), by rw [HY.out]; exact K0, K1, K2⟩
   ·obtain rfl : z = 6 := by omega
    clear hz hlt3
    have ix : ∀ w, (Instr.index 248 (.agg qbd) (.int .i64 6)).run Tryz.prog w = .ok (.agg qno) w := fun _ => by kernel_rfl
    by_cases hb : d.n.testBit 6 = true
    ·have hy := qcv 6 (by omega) s d.n d.s hb
     have HY := xaa hy
     have hand : bits .and .u16 (d.n : Int) 64 = 64 := qc7 d.n 6 64 hn hb rfl (by omega)
     clear hb hy
     go_wp2_with (first
      | (refine qab rfl rfl 247 6 rfl rfl (.tmp 10) rfl rfl _ alP qno (fun _ => rfl) (fun _ => rfl) iP rfl (by kernel_rfl) ?_; intro w5 b5 B5; have c0 : w5.cell? ⟨wr.heap.size, 0, none⟩ = some (.int .u16 64) := B5.cell 0; have c3 : w5.cell? ⟨wr.heap.size, 3, none⟩ = some (.func (.func 204) #[] #[]) := B5.cell 3; have K0 := h0.kb b5; have K1 := h1.kb b5; have K2 := h2.kb b5; have cn : w5.cell? ⟨g, 0, none⟩ = some (.int .u16 d.n) := K1.cell 0)
      | (refine ldS rfl (.tmp 19) rfl _ rfl d.s K1.sub ?_))
     refine (ytake6 (ovk 6 s d.n d.s) d.s w.heap.size _ K0).mono ?_
     rintro e w6 ⟨rfl, m6, B6⟩
     go_wp2_with fail
     go_roundg (8 - 7)
     case measure => omega
     case rel => exact ⟨7, 7, rfl, rfl, by omega, rfl, bel.trans ((b5.mono bel.size).trans (m6.below (xau bel.size b5.size) (fun k hk => by omega))), by rw [HY.out]; exact B6, K1.keep m6 (by omega), K2.keep m6 (by omega)⟩
    ·have hy := qe0 6 (by omega) s d.n d.s (Bool.eq_false_iff.2 hb)
     have HY := xaa hy
     have hand : bits .and .u16 (d.n : Int) 64 = 0 := qe8 d.n 6 64 hn (Bool.eq_false_iff.2 hb) rfl (by omega)
     clear hb hy
     go_wp2_with (first
      | (refine qab rfl rfl 247 6 rfl rfl (.tmp 10) rfl rfl _ alP qno (fun _ => rfl) (fun _ => rfl) iP rfl (by kernel_rfl) ?_; intro w5 b5 B5; have c0 : w5.cell? ⟨wr.heap.size, 0, none⟩ = some (.int .u16 64) := B5.cell 0; have K0 := h0.kb b5; have K1 := h1.kb b5; have K2 := h2.kb b5; have cn : w5.cell? ⟨g, 0, none⟩ = some (.int .u16 d.n) := K1.cell 0))
     go_roundg (8 - 7)
     case measure => omega
     case rel => exact ⟨7, 7, rfl, rfl, by omega, rfl, bel.trans (b5.mono bel.size), by rw [HY.out]; exact K0, K1, K2⟩
   ·obtain rfl : z = 7 := by omega
    clear hz hlt3
    have ix : ∀ w, (Instr.index 248 (.agg qbd) (.int .i64 7)).run Tryz.prog w = .ok (.agg qnn) w := fun _ => by kernel_rfl
    by_cases hb : d.n.testBit 7 = true
    ·have hy := qcv 7 (by omega) s d.n d.s hb
     have HY := xaa hy
     have hand : bits .and .u16 (d.n : Int) 128 = 128 := qc7 d.n 7 128 hn hb rfl (by omega)
     clear hb hy
     go_wp2_with (first
      | (refine qab rfl rfl 247 6 rfl rfl (.tmp 10) rfl rfl _ alP qnn (fun _ => rfl) (fun _ => rfl) iP rfl (by kernel_rfl) ?_; intro w5 b5 B5; have c0 : w5.cell? ⟨wr.heap.size, 0, none⟩ = some (.int .u16 128) := B5.cell 0; have c3 : w5.cell? ⟨wr.heap.size, 3, none⟩ = some (.func (.func 207) #[] #[]) := B5.cell 3; have K0 := h0.kb b5; have K1 := h1.kb b5; have K2 := h2.kb b5; have cn : w5.cell? ⟨g, 0, none⟩ = some (.int .u16 d.n) := K1.cell 0)
      | (refine ldS rfl (.tmp 19) rfl _ rfl d.s K1.sub ?_))
     refine (ytake7 (ovk 7 s d.n d.s) d.s w.heap.size _ K0).mono ?_
     rintro e w6 ⟨rfl, m6, B6⟩
     go_wp2_with fail
     go_roundg (8 - 8)
     case measure => omega
     case rel => exact ⟨8, 8, rfl, rfl, by omega, rfl, bel.trans ((b5.mono bel.size).trans (m6.below (xau bel.size b5.size) (fun k hk => by omega))), by rw [HY.out]; exact B6, K1.keep m6 (by omega), K2.keep m6 (by omega)⟩
    ·have hy := qe0 7 (by omega) s d.n d.s (Bool.eq_false_iff.2 hb)
     have HY := xaa hy
     have hand : bits .and .u16 (d.n : Int) 128 = 0 := qe8 d.n 7 128 hn (Bool.eq_false_iff.2 hb) rfl (by omega)
     clear hb hy
     go_wp2_with (first
      | (refine qab rfl rfl 247 6 rfl rfl (.tmp 10) rfl rfl _ alP qnn (fun _ => rfl) (fun _ => rfl) iP rfl (by kernel_rfl) ?_; intro w5 b5 B5; have c0 : w5.cell? ⟨wr.heap.size, 0, none⟩ = some (.int .u16 128) := B5.cell 0; have K0 := h0.kb b5; have K1 := h1.kb b5; have K2 := h2.kb b5; have cn : w5.cell? ⟨g, 0, none⟩ = some (.int .u16 d.n) := K1.cell 0))
     go_roundg (8 - 8)
     case measure => omega
     case rel => exact ⟨8, 8, rfl, rfl, by omega, rfl, bel.trans (b5.mono bel.size), by rw [HY.out]; exact K0, K1, K2⟩
  ·obtain rfl : k = 8 := by omega
   obtain rfl : z = 8 := by omega
   clear hz hlt3 hk
   have h3 : Blk wr w.heap.size 44 (over s d).cells := h0
   clear h0
   go_wp2_with (first
    | (refine ldS rfl (.tmp 2) rfl _ rfl (over s d) h3.lies ?_)
    | (refine stS rfl (.tmp 4) (.tmp 23) rfl rfl _ rfl (over s d) rfl .zero h2 ?_; intro w6 m6 B6))
   refine bodyPost_ret (v := .agg (over s d).cells) (qbf rfl _ _ g2 44 _ _ rfl B6 uS rfl iS) rfl ⟨rfl, bel.trans (m6.below bel.size (fun k hk => by omega))⟩
end
section
theorem q0q (d : Dcl) (h1 : d.n <= 255) (h2 : over .zero d = d.s) : chkD d = chk (over .zero d) := by
 unfold chkD qpf chk
 rw [decide_eq_true h1, decide_eq_true h2, h2]
 rfl
theorem q0r (d : Dcl) (h2 : ¬ over .zero d = d.s) : chkD d = 60 := by
 unfold chkD qpf
 rw [decide_eq_false h2]
 simp
theorem qsj (d : Dcl) (h1 : ¬ d.n <= 255) : chkD d = 60 := by
 unfold chkD qpf
 rw [decide_eq_false h1]
 simp
theorem qpl (d : Dcl) (w : World) (hn : d.n < 65536) :
 Calls Tryz.prog 112 #[.agg d.cells] w fun e w' => e = .returned (.int .i64 (chkD d)) /\ Below w.heap.size w w' := by
 have CA : Hid (∀ w, Calls Tryz.prog 135 #[.agg Sty.zero.cells, .agg d.cells] w fun e w' => e = .returned (.agg (over .zero d).cells) /\ Below w.heap.size w w') := fun w => qm8 .zero d w hn
 have CC := xaa (fun w => qm7 (over .zero d) w)
 have H1 := xaa (q0q d)
 have H2 := xaa (q0r d)
 have H3 := xaa (qsj d)
 obtain ⟨o, ho⟩ : ∃ o, over .zero d = o := ⟨_, rfl⟩
 rw [ho] at CA CC H1 H2
 clear ho
 obtain ⟨c, hc⟩ : ∃ c, chkD d = c := ⟨_, rfl⟩
 rw [hc] at H1 H2 H3 |-
 clear hc
 by_cases h255 : d.n <= 255
 ·have hand := qzl d.n h255
  by_cases he : o = d.s
  ·have e := H1.out h255 he
   have hne := fun w => neS o d.s w true (decide_eq_true he)
   simp only [Bool.not_true] at hne
   clear he
   subst e
   clear H1 H2 H3
   go_enter Tryz.func112, Tryz.ntmps112
   go_wp2_with (first
    | (refine bxDV rfl (.tmp 0) rfl d rfl ?_; intro w1 b1 B1)
    | (refine ldD rfl (.tmp 1) rfl _ rfl d B1.lies ?_))
   refine (CA.out _).mono ?_
   rintro e w2 ⟨rfl, b2⟩
   have B2 := B1.kb b2
   go_wp2_with (first
    | (refine nwS rfl rfl 3 rfl rfl (.tmp 6) rfl rfl o (fun _ => rfl) (fun _ => rfl) ?_; intro w3 b3 B3; have B4 := B2.kb b3; have cn : w3.cell? ⟨w.heap.size, 0, none⟩ = some (.int .u16 d.n) := B4.cell 0)
    | (refine qu8 (by kernel_rfl) (.tmp 3) rfl _ rfl o B3.lies ?_)
    | (refine qu8 (by kernel_rfl) (.tmp 13) rfl _ rfl d.s B4.sub ?_))
   go_wp2_with (refine ldS rfl (.tmp 3) rfl _ rfl o B3.lies ?_)
   refine (CC.out _).mono ?_
   rintro e w4 ⟨rfl, b4⟩
   go_wp2_with fail
   go_ret
   exact ⟨rfl, xaq (xaq (xaq b1 b2) b3) b4⟩
  ·have e := H2.out he
   have hne := fun w => neS o d.s w false (decide_eq_false he)
   simp only [Bool.not_false] at hne
   clear he
   subst e
   clear H1 H2 H3
   go_enter Tryz.func112, Tryz.ntmps112
   go_wp2_with (first
    | (refine bxDV rfl (.tmp 0) rfl d rfl ?_; intro w1 b1 B1)
    | (refine ldD rfl (.tmp 1) rfl _ rfl d B1.lies ?_))
   refine (CA.out _).mono ?_
   rintro e w2 ⟨rfl, b2⟩
   have B2 := B1.kb b2
   go_wp2_with (first
    | (refine nwS rfl rfl 3 rfl rfl (.tmp 6) rfl rfl o (fun _ => rfl) (fun _ => rfl) ?_; intro w3 b3 B3; have B4 := B2.kb b3; have cn : w3.cell? ⟨w.heap.size, 0, none⟩ = some (.int .u16 d.n) := B4.cell 0)
    | (refine qu8 (by kernel_rfl) (.tmp 3) rfl _ rfl o B3.lies ?_)
    | (refine qu8 (by kernel_rfl) (.tmp 13) rfl _ rfl d.s B4.sub ?_))
   go_wp2_with fail
   go_ret
   exact ⟨rfl, xaq (xaq b1 b2) b3⟩
 ·have e := H3.out h255
  have hand := not_no d.n hn h255
  subst e
  clear H1 H2 H3
  go_enter Tryz.func112, Tryz.ntmps112
  go_wp2_with (first
   | (refine bxDV rfl (.tmp 0) rfl d rfl ?_; intro w1 b1 B1)
   | (refine ldD rfl (.tmp 1) rfl _ rfl d B1.lies ?_))
  refine (CA.out _).mono ?_
  rintro e w2 ⟨rfl, b2⟩
  have B2 := B1.kb b2
  go_wp2_with (first
   | (refine nwS rfl rfl 3 rfl rfl (.tmp 6) rfl rfl o (fun _ => rfl) (fun _ => rfl) ?_; intro w3 b3 B3; have B4 := B2.kb b3; have cn : w3.cell? ⟨w.heap.size, 0, none⟩ = some (.int .u16 d.n) := B4.cell 0))
  go_wp2_with fail
  go_ret
  exact ⟨rfl, xaq (xaq b1 b2) b3⟩
end
section
def Ss (w : World) (v : Value) (l : List Sty) : Prop := qa5 9 (fun _ => False) w v (l.map fun s => s.cells.toList)
theorem Ss.below {w w' : World} {v : Value} {l : List Sty} (h : Ss w v l) (b : Below w.heap.size w w') : Ss w' v l := qa5.below h b
theorem Ss.form {w : World} {v : Value} {l : List Sty} (h : Ss w v l) : ∃ A c, v = .slice A l.length c := by
 have := qa5.form h
 rwa [xao] at this
theorem Ss.get {w wx : World} {v : Value} {l : List Sty} (h : Ss w v l) (b : Below w.heap.size w wx) {i : Nat} {s : Sty} (hi : l[i]? = some s) :
 ∃ a cap o, v = .slice (some a) l.length cap /\ a.block < w.heap.size /\ a.add (i * 9) = ⟨a.block, o, none⟩ /\ qar wx ⟨a.block, o, none⟩ s.cells := by
 obtain ⟨a, cap, o, hv, hb, _, ha, hc⟩ := qa5.get h b (x := s.cells.toList) (by rw [xan, hi]; rfl) (by simp [Sty.cells])
 rw [xao] at hv
 exact ⟨a, cap, o, hv, hb, ha, qdq rfl hc⟩
theorem qar.bits {w : World} {g o : Nat} {d : Dcl} (h : qar w ⟨g, o, none⟩ d.cells) : w.cell? ⟨g, o, none⟩ = some (.int .u16 d.n) := h 0 _ rfl
end
section
theorem qib {P : Program} (t e : TypeId) (i : TypeInfo) (z : Value) (ht : P.underlying t = some (.slice e)) (hi : P.info? e = some i) (hz : i.zero = some z)
 (kl kc : IntKind) (n c : Nat) (hnc : n <= c) (hbytes : i.bytes * c <= 281474976710656) (h63 : c <= 9223372036854775807) (w : World) :
 (Instr.makeSlice t (.int kl (n : Int)) (.int kc (c : Int))).run P w = .ok (.slice (some ⟨w.heap.size, 0, none⟩) n c) (w.alloc (.cells (madeCells z.cells (c * i.size)) e)) := by
 have hb : (i.bytes : Int) * (c : Int) <= 281474976710656 := by
  have h : ((i.bytes * c : Nat) : Int) <= 281474976710656 := by omega
  rwa [Int.natCast_mul] at h
 have hr := run_make (P := P) w t e i z ht hi hz kl kc n c (by omega) (by omega) hb (by omega)
 simp only [xax] at hr
 exact hr
theorem qbl {P : Program} {t : TypeId} {z : Value} {s b : Nat} (h : (P.info? t).map (fun i => (i.zero, i.size, i.bytes)) = some (some z, s, b)) : ∃ i, P.info? t = some i /\ i.zero = some z /\ i.size = s /\ i.bytes = b := by
 cases hq : P.info? t with
 | none => rw [hq] at h; cases h
 | some i =>
   rw [hq] at h
   injection h with h
   injection h with h1 h2
   injection h2 with h2 h3
   exact ⟨i, rfl, h1, h2, h3⟩
theorem qu6 (z : Array Value) (k n i j : Nat) (hk : z.size = k) (hi : i < n) (hj : j < k) : (madeCells z (n * k))[i * k + j]? = z[j]? := by
 have h1 : i * k + j < n * k := by have := qji (k := k) hi; omega
 unfold madeCells
 have hm : (i * k + j) % z.size = j := by rw [hk, Nat.mul_comm, Nat.mul_add_mod]; exact Nat.mod_eq_of_lt hj
 rw [Array.getElem?_map, Array.getElem?_range, if_pos h1]
 simp only [Option.map_some, hm]
 rw [getElem!_pos z j (by omega), Array.getElem?_eq_getElem (by omega)]
end
section
theorem below_grown {B : Nat} {w w' : World} {r : Option Nat} (h : w.grownBy w' r) (hB : B <= w.heap.size) (hr : ∀ g, r = some g -> B <= g) : Below B w w' :=
 ⟨h.os, h.tape, h.output, h.size, fun k hk => h.block k (by omega) (fun e => by have := hr k e.symm; omega)⟩
end
section
section
variable {P : Program} {ops : Array Oper} {Q : Exit -> Act -> World -> Prop} {md : Region.Mode} {S : World -> Prop} {R : Act -> Prop}
theorem qag (hac : ∀ i o, ops[i]? = some o -> ∀ e ∈ o.after, Region.binds md e = true -> e.on < i) {listed : Array Bool} (hsz : listed.size = ops.size) :
 ∀ j, listed.getD j true = false -> Region.ready md ops listed ≠ [] := by
 intro j
 induction j using Nat.strongRecOn with
 | ind j ih =>
   intro hj
   have hjs : j < listed.size := by
    rcases Nat.lt_or_ge j listed.size with h | h
    ·exact h
    ·simp [Array.getElem?_eq_none h] at hj
   obtain ⟨o, ho⟩ : ∃ o, ops[j]? = some o := ⟨_, Array.getElem?_eq_getElem (by omega)⟩
   by_cases hall : ∀ e ∈ o.after, Region.binds md e = true -> listed.getD e.on false = true
   ·intro h0
    have := mem_ready.2 ⟨hj, o, ho, hall⟩
    rw [h0] at this
    cases this
   ·have hex : ∃ e, e ∈ o.after /\ Region.binds md e = true /\ ¬ listed.getD e.on false = true := by
     apply Classical.byContradiction
     intro hno
     exact hall fun e he hb => Classical.byContradiction fun hn => hno ⟨e, he, hb, hn⟩
    obtain ⟨e, he, hb, hn⟩ := hex
    have hlt := hac j o ho e he hb
    refine ih e.on hlt ?_
    have hs2 : e.on < listed.size := by omega
    simp [hs2] at hn |-
    exact hn
theorem qnh {st : Nat} {os : Oper} (hst : ops[st]? = some os) (hlast : ops.size = st + 1)
 (hac : ∀ i o, ops[i]? = some o -> ∀ e ∈ o.after, Region.binds md e = true -> e.on < i)
 (hall : ∀ i, i < st -> ∃ e ∈ os.after, Region.binds md e = true /\ e.on = i)
 (hQ : ∀ a w, S w -> R a -> Go.wpOp P ops Q st (fun a' w' => Q .normal a' w') a w) :
 ∀ (fuel : Nat) (listed : Array Bool) (a : Act) (w : World), listed.size = ops.size -> listed.getD st true = false →
  AllS P md ops S R fuel (listed.setIfInBounds st true) a -> S w -> wpAny P md ops Q (fuel + 1) listed a w := by
 intro fuel
 induction fuel with
 | zero =>
   intro listed a w hsz hun hA hS
   refine ⟨fun h => absurd h (qag hac hsz st hun), fun i hi => ?_⟩
   by_cases e : i = st
   ·subst e
    exact wpOp_mono (fun a' w' h => ⟨hA.1, h⟩) (hQ a w hS hA.2)
   ·have := ready_mono hi e
    rw [hA.1] at this
    cases this
 | succ f ih =>
   intro listed a w hsz hun hA hS
   refine ⟨fun h => absurd h (qag hac hsz st hun), fun i hi => ?_⟩
   by_cases e : i = st
   ·subst e
    obtain ⟨_, o2, ho2, hl⟩ := mem_ready.1 hi
    rw [hst] at ho2
    injection ho2 with ho2
    subst ho2
    have hnone : Region.ready md ops (listed.setIfInBounds i true) = [] := by
     rw [List.eq_nil_iff_forall_not_mem]
     intro j hj
     obtain ⟨h1, o, ho, _⟩ := mem_ready.1 hj
     have hjs : j < ops.size := (xag ho).1
     by_cases ej : j = i
     ·subst ej
      have hjl : j < listed.size := by omega
      simp [hjl] at h1
     ·obtain ⟨ed, hed, hb, hon⟩ := hall j (by omega)
      have h2 := hl ed hed hb
      rw [hon] at h2
      rw [getD_set_ne true (Ne.symm ej)] at h1
      have hjl : j < listed.size := by omega
      simp [hjl] at h1 h2
      rw [h1] at h2
      cases h2
    exact wpOp_mono (fun a' w' h => ⟨fun _ => h, fun j hj => by rw [hnone] at hj; cases hj⟩) (hQ a w hS (hA.1 hnone))
   ·obtain ⟨oi, v, ho, hk, hr⟩ := hA.2 i (ready_mono hi e)
    refine hk.step ho hS fun w' hS' => ?_
    refine ih (listed.setIfInBounds i true) _ w' (by simpa using hsz) (by rw [getD_set_ne true e]; exact hun) ?_ hS'
    rw [Array.setIfInBounds_comm _ _ e]
    exact hr
theorem qbh {i : Nat} {o : Oper} {a : Act} {w : World} {K : Act -> World -> Prop} (hi : ops[i]? = some o) (hg : o.guard = none) (h : o.wp P a w K Q) : Go.wpOp P ops Q i K a w := by
 unfold Go.wpOp
 simp only [hi]
 rw [if_pos (qaa hg _)]
 exact .inl h
def qsv (ops : Array Oper) : Bool := (List.range ops.size).all fun i => match ops[i]? with
 | some o => o.after.toList.all fun e => decide (e.on < i)
 | none => true
def lastB (ops : Array Oper) (st : Nat) : Bool := (List.range st).all fun i => match ops[st]? with
 | some o => o.after.toList.any fun e => Region.binds .any e && decide (e.on = i)
 | none => false
theorem qdn {id : Nat} {a : Act} {w : World} (hm : P.follows .mixedOrders = true) (S : World -> Prop) (h0 : S w.drew) (st : Nat) (hlast : ops.size = st + 1) (hb : qsv ops = true) (hl : lastB ops st = true)
 (h : ∀ R : Act -> Prop, Hid (∀ a', (∀ w', S w' -> Go.wpOp P ops Q st (fun a'' w'' => Q .normal a'' w'') a' w') -> R a') -> AllS P .any ops S R st ((Array.replicate ops.size false).setIfInBounds st true) a) : (Code.region id ops true).wp P Q a w := by
 refine wp_region_any hm ?_
 obtain ⟨os, hos⟩ : ∃ os, ops[st]? = some os := ⟨_, Array.getElem?_eq_getElem (by omega)⟩
 have hh := h (fun a' => ∀ w', S w' -> Go.wpOp P ops Q st (fun a'' w'' => Q .normal a'' w'') a' w') (xaa fun _ h => h)
 have hac : ∀ i o, ops[i]? = some o -> ∀ e ∈ o.after, Region.binds .any e = true -> e.on < i := fun i o ho e he _ => by
  have h1 := xam hb i (List.mem_range.2 (xag ho).1)
  rw [ho] at h1
  exact of_decide_eq_true (xam h1 e (by simpa using he))
 have hall : ∀ i, i < st -> ∃ e ∈ os.after, Region.binds .any e = true /\ e.on = i := fun i hi => by
  have h1 := xam hl i (List.mem_range.2 hi)
  rw [hos] at h1
  obtain ⟨e, he, h2⟩ := List.any_eq_true.1 h1
  simp only [Bool.and_eq_true, decide_eq_true_eq] at h2
  exact ⟨e, by simpa using he, h2⟩
 have := qnh hos hlast hac hall (Q := Q) (S := S) (R := fun a' => ∀ w', S w' -> Go.wpOp P ops Q st (fun a'' w'' => Q .normal a'' w'') a' w') (fun a w hS hR => hR w hS) st (Array.replicate ops.size false) a w.drew (by simp) (by simp [hlast]) hh h0
 rw [hlast]
 rw [hlast] at this
 exact this
end
end
section
open Go.Deep
theorem own : ownKnob Tryz.prog.godebug = none := by kernel_rfl
theorem laidOut : laidOutB Tryz.prog = true := by kernel_rfl
theorem w16_of {a : Int} (h : (Lit.int .u16 a).wf = true) : 0 <= a /\ a <= 65535 := by
 simpa [Lit.wf, IntKind.min, IntKind.max, IntKind.signed, IntKind.bits] using h
section
variable {H : Type} {enc : TypeId × Value -> H} {W : World} {r : Reach} {b0 : Nat} {v : Value} {d : DataW H} {ps : List MemPlace} {fuel : Nat} {cs : List Value} {y : DataW H × List MemPlace}
theorem c5 : Tryz.prog.cellsOf 5 = 1 := by kernel_rfl
theorem c3 : Tryz.prog.cellsOf 3 = 1 := by kernel_rfl
theorem c2 : Tryz.prog.cellsOf 2 = 1 := by kernel_rfl
theorem c24 : Tryz.prog.cellsOf 42 = 1 := by kernel_rfl
theorem c23 : Tryz.prog.cellsOf 44 = 9 := by kernel_rfl
theorem c26 : Tryz.prog.cellsOf 46 = 10 := by kernel_rfl
theorem qw1 (h : DataW.trod enc Tryz.prog W 0 (fun _ => true) true fuel 44 cs = some y) : ∃ s : Sty, cs = s.cells.toList := by
 obtain ⟨xs, n, _, _, hl, hyl, hf⟩ := DataW.trod_struct Tryz.underlying44 h
 have hl9 : cs.length = 9 := hl.trans c23
 have hy9 : xs.length = 9 := hyl
 match cs, hl9 with
 | [q0, q1, q2, q3, q4, q5, q6, q7, q8], _ =>
   obtain ⟨z0, g0, _, _⟩ := DataW.trod_int Tryz.underlying5 ((hf 0 _ rfl).trans (xac (by omega)))
   obtain ⟨z1, g1, _, _⟩ := DataW.trod_int Tryz.underlying5 ((hf 1 _ rfl).trans (xac (by omega)))
   obtain ⟨z2, g2, _, _⟩ := DataW.trod_int Tryz.underlying5 ((hf 2 _ rfl).trans (xac (by omega)))
   obtain ⟨z3, g3, _, _⟩ := DataW.trod_int Tryz.underlying5 ((hf 3 _ rfl).trans (xac (by omega)))
   obtain ⟨z4, g4, _, _⟩ := DataW.trod_int Tryz.underlying3 ((hf 4 _ rfl).trans (xac (by omega)))
   obtain ⟨z5, g5, _, _⟩ := DataW.trod_int Tryz.underlying3 ((hf 5 _ rfl).trans (xac (by omega)))
   obtain ⟨z6, g6, _, _⟩ := DataW.trod_int Tryz.underlying2 ((hf 6 _ rfl).trans (xac (by omega)))
   obtain ⟨z7, g7, _, _⟩ := DataW.trod_int Tryz.underlying5 ((hf 7 _ rfl).trans (xac (by omega)))
   obtain ⟨z8, g8, _, _⟩ := DataW.trod_int Tryz.underlying2 ((hf 8 _ rfl).trans (xac (by omega)))
   simp [c5] at g0
   simp [c5] at g1
   simp [c5] at g2
   simp [c5] at g3
   simp [c3] at g4
   simp [c3] at g5
   simp [c2] at g6
   simp [c5] at g7
   simp [c2] at g8
   subst g0 g1 g2 g3 g4 g5 g6 g7 g8
   exact ⟨⟨z0, z1, z2, z3, z4, z5, z6, z7, z8⟩, rfl⟩
theorem dcl_of (h : DataW.trod enc Tryz.prog W 0 (fun _ => true) true fuel 46 cs = some y) : ∃ d : Dcl, cs = d.cells.toList /\ d.n < 65536 := by
 obtain ⟨xs, n, _, _, hl, hyl, hf⟩ := DataW.trod_struct Tryz.underlying46 h
 have hl10 : cs.length = 10 := hl.trans c26
 have hy2 : xs.length = 2 := hyl
 match cs, hl10 with
 | q :: rest, hl10 =>
   obtain ⟨z, g0, _, wz⟩ := DataW.trod_int Tryz.underlying42 ((hf 0 _ rfl).trans (xac (by omega)))
   simp [c24] at g0
   subst g0
   obtain ⟨s, hs⟩ := qw1 ((hf 1 _ rfl).trans (xac (by omega)))
   have hr : rest.length = 9 := by simpa using hl10
   have hs' : ((Value.int .u16 z :: rest).drop 1).take (Tryz.prog.cellsOf 44) = s.cells.toList := hs
   rw [c23] at hs'
   have hs2 : rest = s.cells.toList := by
    rw [<- hs']
    simp [<- hr]
   have h16 := w16_of wz
   refine ⟨⟨z.toNat, s⟩, ?_, by show z.toNat < 65536; omega⟩
   rw [hs2]
   show _ = Value.int .u16 ((z.toNat : Nat) : Int) :: s.cells.toList
   rw [Int.toNat_of_nonneg h16.1]
end
end
end Go.Proofs.YtmceblkjbpbcoaaGreatDoor
