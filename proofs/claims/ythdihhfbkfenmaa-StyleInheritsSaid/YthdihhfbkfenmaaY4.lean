/- Contract of style.First. No condition. -/
import Derived.Test.YthdihhfbkfenmaaY3
namespace Go.Proofs.Ythdihhfbkfenmaa
open Go.ChangeShapes Go.WideShapes Go.ChangeAt Go.RowKit

set_option maxRecDepth 100000 in
set_option maxHeartbeats 4000000 in
theorem yfirst_any (w : World) :
    Calls Try.prog 16 #[] w fun e w' => e = .returned (.agg Sty.first.cells) ∧ Below w.heap.size w w' := by
  go_enter Try.func16, Try.ntmps16
  go_wp2_with (first
    | (refine alSV (o := ⟨some 0, _, _, _, _, _⟩) rfl rfl ?_; intro w1 b1 B1)
    | (refine alSV (o := ⟨some 1, _, _, _, _, _⟩) rfl rfl ?_; intro w2 b2 B2))
  refine (yparts_any _).mono ?_
  rintro e w3 ⟨rfl, b3⟩
  have hlt : w.heap.size < w1.heap.size := B1.lt
  have A0 : Blk w3 w.heap.size 23 Sty.zero.cells := (B1.keep (S := fun _ => False) (Mod.of_below b2) id).keep (S := fun _ => False) (Mod.of_below b3) id
  have A1 : Blk w3 w1.heap.size 23 (fsk 0).cells := fsk_zero ▸ B2.keep (S := fun _ => False) (Mod.of_below b3) id
  have b03 := below_seq (below_seq b1 b2) b3
  clear b1 B1 b2 B2 b3
  obtain ⟨g, hg⟩ : ∃ g, w1.heap.size = g := ⟨_, rfl⟩
  rw [hg] at hlt A1 ⊢
  clear hg
  go_wp2_with fail
  go_loopg [5] 8 (fun kx s5 wr => ∃ (k : Nat) (z : Int), z = k ∧ s5 = .int .i64 z ∧ k ≤ 8 ∧ kx = 8 - k ∧ Below w.heap.size w wr ∧ Blk wr w.heap.size 23 Sty.zero.cells ∧ Blk wr g 23 (fsk k).cells)
  case atStart => exact ⟨0, 0, rfl, rfl, by omega, rfl, b03, A0, A1⟩
  case round =>
    obtain ⟨k, z, hz, rfl, hk, rfl, bel, h0, h1⟩ := hrel
    clear A0 A1 b03
    by_cases hlt2 : k < 8
    · clear hk
      rcases (show k = 0 ∨ k = 1 ∨ k = 2 ∨ k = 3 ∨ k = 4 ∨ k = 5 ∨ k = 6 ∨ k = 7 from by omega) with rfl | rfl | rfl | rfl | rfl | rfl | rfl | rfl
      · obtain rfl : z = 0 := by omega
        clear hz hlt2
        have ix : ∀ w, (Instr.index 68 (.agg partsV) (.int .i64 0)).run Try.prog w = .ok (.agg rowP0) w := fun _ => by kernel_rfl
        go_wp2_with (refine wpList_newS rfl rfl 67 3 rfl rfl (.tmp 7) rfl rfl _ alP rowP0 (fun _ => rfl) (fun _ => rfl) iP rfl (by kernel_rfl) ?_; intro w4 b4 B4; have c1 : w4.cell? ⟨wr.heap.size, 1, none⟩ = some (.func (.func 30) #[] #[]) := B4.cell 1)
        refine (yfirst0 (fsk 0) g _ (h1.keep (S := fun _ => False) (Mod.of_below b4) id)).mono ?_
        rintro e w5 ⟨rfl, m5, B5⟩
        go_wp2_with fail
        go_roundg (8 - 1)
        case measure => omega
        case rel => exact ⟨1, 1, rfl, rfl, by omega, rfl, bel.trans ((b4.mono bel.size).trans (m5.below (Nat.le_trans bel.size b4.size) (fun k hk => by omega))), (h0.keep (S := fun _ => False) (Mod.of_below b4) id).keep m5 (by omega), by rw [fsk_succ 0 (by omega)]; exact B5⟩
      · obtain rfl : z = 1 := by omega
        clear hz hlt2
        have ix : ∀ w, (Instr.index 68 (.agg partsV) (.int .i64 1)).run Try.prog w = .ok (.agg rowP1) w := fun _ => by kernel_rfl
        go_wp2_with (refine wpList_newS rfl rfl 67 3 rfl rfl (.tmp 7) rfl rfl _ alP rowP1 (fun _ => rfl) (fun _ => rfl) iP rfl (by kernel_rfl) ?_; intro w4 b4 B4; have c1 : w4.cell? ⟨wr.heap.size, 1, none⟩ = some (.func (.func 33) #[] #[]) := B4.cell 1)
        refine (yfirst1 (fsk 1) g _ (h1.keep (S := fun _ => False) (Mod.of_below b4) id)).mono ?_
        rintro e w5 ⟨rfl, m5, B5⟩
        go_wp2_with fail
        go_roundg (8 - 2)
        case measure => omega
        case rel => exact ⟨2, 2, rfl, rfl, by omega, rfl, bel.trans ((b4.mono bel.size).trans (m5.below (Nat.le_trans bel.size b4.size) (fun k hk => by omega))), (h0.keep (S := fun _ => False) (Mod.of_below b4) id).keep m5 (by omega), by rw [fsk_succ 1 (by omega)]; exact B5⟩
      · obtain rfl : z = 2 := by omega
        clear hz hlt2
        have ix : ∀ w, (Instr.index 68 (.agg partsV) (.int .i64 2)).run Try.prog w = .ok (.agg rowP2) w := fun _ => by kernel_rfl
        go_wp2_with (refine wpList_newS rfl rfl 67 3 rfl rfl (.tmp 7) rfl rfl _ alP rowP2 (fun _ => rfl) (fun _ => rfl) iP rfl (by kernel_rfl) ?_; intro w4 b4 B4; have c1 : w4.cell? ⟨wr.heap.size, 1, none⟩ = some (.func (.func 36) #[] #[]) := B4.cell 1)
        refine (yfirst2 (fsk 2) g _ (h1.keep (S := fun _ => False) (Mod.of_below b4) id)).mono ?_
        rintro e w5 ⟨rfl, m5, B5⟩
        go_wp2_with fail
        go_roundg (8 - 3)
        case measure => omega
        case rel => exact ⟨3, 3, rfl, rfl, by omega, rfl, bel.trans ((b4.mono bel.size).trans (m5.below (Nat.le_trans bel.size b4.size) (fun k hk => by omega))), (h0.keep (S := fun _ => False) (Mod.of_below b4) id).keep m5 (by omega), by rw [fsk_succ 2 (by omega)]; exact B5⟩
      · obtain rfl : z = 3 := by omega
        clear hz hlt2
        have ix : ∀ w, (Instr.index 68 (.agg partsV) (.int .i64 3)).run Try.prog w = .ok (.agg rowP3) w := fun _ => by kernel_rfl
        go_wp2_with (refine wpList_newS rfl rfl 67 3 rfl rfl (.tmp 7) rfl rfl _ alP rowP3 (fun _ => rfl) (fun _ => rfl) iP rfl (by kernel_rfl) ?_; intro w4 b4 B4; have c1 : w4.cell? ⟨wr.heap.size, 1, none⟩ = some (.func (.func 39) #[] #[]) := B4.cell 1)
        refine (yfirst3 (fsk 3) g _ (h1.keep (S := fun _ => False) (Mod.of_below b4) id)).mono ?_
        rintro e w5 ⟨rfl, m5, B5⟩
        go_wp2_with fail
        go_roundg (8 - 4)
        case measure => omega
        case rel => exact ⟨4, 4, rfl, rfl, by omega, rfl, bel.trans ((b4.mono bel.size).trans (m5.below (Nat.le_trans bel.size b4.size) (fun k hk => by omega))), (h0.keep (S := fun _ => False) (Mod.of_below b4) id).keep m5 (by omega), by rw [fsk_succ 3 (by omega)]; exact B5⟩
      · obtain rfl : z = 4 := by omega
        clear hz hlt2
        have ix : ∀ w, (Instr.index 68 (.agg partsV) (.int .i64 4)).run Try.prog w = .ok (.agg rowP4) w := fun _ => by kernel_rfl
        go_wp2_with (refine wpList_newS rfl rfl 67 3 rfl rfl (.tmp 7) rfl rfl _ alP rowP4 (fun _ => rfl) (fun _ => rfl) iP rfl (by kernel_rfl) ?_; intro w4 b4 B4; have c1 : w4.cell? ⟨wr.heap.size, 1, none⟩ = some (.func (.func 42) #[] #[]) := B4.cell 1)
        refine (yfirst4 (fsk 4) g _ (h1.keep (S := fun _ => False) (Mod.of_below b4) id)).mono ?_
        rintro e w5 ⟨rfl, m5, B5⟩
        go_wp2_with fail
        go_roundg (8 - 5)
        case measure => omega
        case rel => exact ⟨5, 5, rfl, rfl, by omega, rfl, bel.trans ((b4.mono bel.size).trans (m5.below (Nat.le_trans bel.size b4.size) (fun k hk => by omega))), (h0.keep (S := fun _ => False) (Mod.of_below b4) id).keep m5 (by omega), by rw [fsk_succ 4 (by omega)]; exact B5⟩
      · obtain rfl : z = 5 := by omega
        clear hz hlt2
        have ix : ∀ w, (Instr.index 68 (.agg partsV) (.int .i64 5)).run Try.prog w = .ok (.agg rowP5) w := fun _ => by kernel_rfl
        go_wp2_with (refine wpList_newS rfl rfl 67 3 rfl rfl (.tmp 7) rfl rfl _ alP rowP5 (fun _ => rfl) (fun _ => rfl) iP rfl (by kernel_rfl) ?_; intro w4 b4 B4; have c1 : w4.cell? ⟨wr.heap.size, 1, none⟩ = some (.func (.func 45) #[] #[]) := B4.cell 1)
        refine (yfirst5 (fsk 5) g _ (h1.keep (S := fun _ => False) (Mod.of_below b4) id)).mono ?_
        rintro e w5 ⟨rfl, m5, B5⟩
        go_wp2_with fail
        go_roundg (8 - 6)
        case measure => omega
        case rel => exact ⟨6, 6, rfl, rfl, by omega, rfl, bel.trans ((b4.mono bel.size).trans (m5.below (Nat.le_trans bel.size b4.size) (fun k hk => by omega))), (h0.keep (S := fun _ => False) (Mod.of_below b4) id).keep m5 (by omega), by rw [fsk_succ 5 (by omega)]; exact B5⟩
      · obtain rfl : z = 6 := by omega
        clear hz hlt2
        have ix : ∀ w, (Instr.index 68 (.agg partsV) (.int .i64 6)).run Try.prog w = .ok (.agg rowP6) w := fun _ => by kernel_rfl
        go_wp2_with (refine wpList_newS rfl rfl 67 3 rfl rfl (.tmp 7) rfl rfl _ alP rowP6 (fun _ => rfl) (fun _ => rfl) iP rfl (by kernel_rfl) ?_; intro w4 b4 B4; have c1 : w4.cell? ⟨wr.heap.size, 1, none⟩ = some (.func (.func 48) #[] #[]) := B4.cell 1)
        refine (yfirst6 (fsk 6) g _ (h1.keep (S := fun _ => False) (Mod.of_below b4) id)).mono ?_
        rintro e w5 ⟨rfl, m5, B5⟩
        go_wp2_with fail
        go_roundg (8 - 7)
        case measure => omega
        case rel => exact ⟨7, 7, rfl, rfl, by omega, rfl, bel.trans ((b4.mono bel.size).trans (m5.below (Nat.le_trans bel.size b4.size) (fun k hk => by omega))), (h0.keep (S := fun _ => False) (Mod.of_below b4) id).keep m5 (by omega), by rw [fsk_succ 6 (by omega)]; exact B5⟩
      · obtain rfl : z = 7 := by omega
        clear hz hlt2
        have ix : ∀ w, (Instr.index 68 (.agg partsV) (.int .i64 7)).run Try.prog w = .ok (.agg rowP7) w := fun _ => by kernel_rfl
        go_wp2_with (refine wpList_newS rfl rfl 67 3 rfl rfl (.tmp 7) rfl rfl _ alP rowP7 (fun _ => rfl) (fun _ => rfl) iP rfl (by kernel_rfl) ?_; intro w4 b4 B4; have c1 : w4.cell? ⟨wr.heap.size, 1, none⟩ = some (.func (.func 52) #[] #[]) := B4.cell 1)
        refine (yfirst7 (fsk 7) g _ (h1.keep (S := fun _ => False) (Mod.of_below b4) id)).mono ?_
        rintro e w5 ⟨rfl, m5, B5⟩
        go_wp2_with fail
        go_roundg (8 - 8)
        case measure => omega
        case rel => exact ⟨8, 8, rfl, rfl, by omega, rfl, bel.trans ((b4.mono bel.size).trans (m5.below (Nat.le_trans bel.size b4.size) (fun k hk => by omega))), (h0.keep (S := fun _ => False) (Mod.of_below b4) id).keep m5 (by omega), by rw [fsk_succ 7 (by omega)]; exact B5⟩
    · obtain rfl : k = 8 := by omega
      obtain rfl : z = 8 := by omega
      rw [fsk_eight] at h1
      clear hz hlt2 hk
      go_wp2_with (first
        | (refine ldS rfl (.tmp 1) rfl _ rfl .first h1.lies ?_)
        | (refine stS rfl (.tmp 0) (.tmp 12) rfl rfl _ rfl .first rfl .zero h0 ?_; intro w6 m6 B6))
      refine bodyPost_ret (v := .agg Sty.first.cells) (res_row rfl _ _ w.heap.size 23 _ _ rfl B6 uS rfl iS) rfl ⟨rfl, bel.trans (m6.below bel.size (fun k hk => by omega))⟩
end Go.Proofs.Ythdihhfbkfenmaa
