/- The row of style's parts as a value; contracts of parts, Check, First. No condition. -/
import Derived.Test.YtgpobhnonjdamaaDoorY2
namespace Go.Proofs.YtgpobhnonjdamaaDoor
open Go.ChangeShapes Go.WideShapes Go.ChangeAt Go.RowKit

def rowP0 : Array Value := #[.int .u16 1, .func (.func 71) #[] #[], .func (.func 72) #[] #[], .func (.func 73) #[] #[]]
def rowP1 : Array Value := #[.int .u16 2, .func (.func 74) #[] #[], .func (.func 75) #[] #[], .func (.func 76) #[] #[]]
def rowP2 : Array Value := #[.int .u16 4, .func (.func 77) #[] #[], .func (.func 78) #[] #[], .func (.func 79) #[] #[]]
def rowP3 : Array Value := #[.int .u16 8, .func (.func 80) #[] #[], .func (.func 81) #[] #[], .func (.func 82) #[] #[]]
def rowP4 : Array Value := #[.int .u16 16, .func (.func 83) #[] #[], .func (.func 84) #[] #[], .func (.func 85) #[] #[]]
def rowP5 : Array Value := #[.int .u16 32, .func (.func 86) #[] #[], .func (.func 87) #[] #[], .func (.func 88) #[] #[]]
def rowP6 : Array Value := #[.int .u16 64, .func (.func 89) #[] #[], .func (.func 90) #[] #[], .func (.func 92) #[] #[]]
def rowP7 : Array Value := #[.int .u16 128, .func (.func 93) #[] #[], .func (.func 94) #[] #[], .func (.func 95) #[] #[]]
def partsV : Array Value := #[.int .u16 1, .func (.func 71) #[] #[], .func (.func 72) #[] #[], .func (.func 73) #[] #[], .int .u16 2, .func (.func 74) #[] #[], .func (.func 75) #[] #[], .func (.func 76) #[] #[], .int .u16 4, .func (.func 77) #[] #[], .func (.func 78) #[] #[], .func (.func 79) #[] #[], .int .u16 8, .func (.func 80) #[] #[], .func (.func 81) #[] #[], .func (.func 82) #[] #[], .int .u16 16, .func (.func 83) #[] #[], .func (.func 84) #[] #[], .func (.func 85) #[] #[], .int .u16 32, .func (.func 86) #[] #[], .func (.func 87) #[] #[], .func (.func 88) #[] #[], .int .u16 64, .func (.func 89) #[] #[], .func (.func 90) #[] #[], .func (.func 92) #[] #[], .int .u16 128, .func (.func 93) #[] #[], .func (.func 94) #[] #[], .func (.func 95) #[] #[]]
def zeroPs : Array Value := #[.int .u16 0, .nilFunc, .nilFunc, .nilFunc, .int .u16 0, .nilFunc, .nilFunc, .nilFunc, .int .u16 0, .nilFunc, .nilFunc, .nilFunc, .int .u16 0, .nilFunc, .nilFunc, .nilFunc, .int .u16 0, .nilFunc, .nilFunc, .nilFunc, .int .u16 0, .nilFunc, .nilFunc, .nilFunc, .int .u16 0, .nilFunc, .nilFunc, .nilFunc, .int .u16 0, .nilFunc, .nilFunc, .nilFunc]
def zeroP : Array Value := #[.int .u16 0, .nilFunc, .nilFunc, .nilFunc]
theorem iPs : (Tryd.prog.info? 113).map (·.size) = some 32 := by kernel_rfl
theorem iP : (Tryd.prog.info? 112).map (·.size) = some 4 := by kernel_rfl
theorem alPs (w : World) : (Instr.alloc 113 true (.tuple #[])).run Tryd.prog w = .ok (.pointer (some ⟨w.heap.size, 0, none⟩)) (w.alloc (.cells zeroPs 113)) := by kernel_rfl
theorem alP (w : World) : (Instr.alloc 112 true (.tuple #[])).run Tryd.prog w = .ok (.pointer (some ⟨w.heap.size, 0, none⟩)) (w.alloc (.cells zeroP 112)) := by kernel_rfl
theorem uPs : (match (Tryd.prog.underlying 113).get! with | .struct _ | .array _ _ => true | _ => false) = true := by kernel_rfl

set_option maxRecDepth 100000 in
set_option maxHeartbeats 2000000 in
theorem yparts_any (w : World) :
    Calls Tryd.prog 63 #[] w fun e w' => e = .returned (.agg partsV) ∧ Below w.heap.size w w' := by
  go_enter Tryd.func63, Tryd.ntmps63
  go_wp2_with (first
    | (refine wpList_newV rfl 113 rfl _ alPs ?_; intro w1 b1 B1)
    | (refine wpList_storeL rfl 113 (.tmp 0) (.tmp 9) rfl rfl _ rfl partsV rfl 113 zeroPs B1 iPs rfl (by kernel_rfl) ?_; intro w2 m2 B2))
  refine bodyPost_ret (v := .agg partsV) (res_row rfl _ _ w.heap.size 113 partsV _ rfl B2 Tryd.underlying113 rfl iPs) rfl ⟨rfl, b1.trans (m2.below b1.size (fun k hk => by omega))⟩

set_option maxRecDepth 100000 in
set_option maxHeartbeats 4000000 in
theorem ycheck_any (s : Sty) (w : World) :
    Calls Tryd.prog 50 #[.agg s.cells] w fun e w' => e = .returned (.int .i64 (chk s)) ∧ Below w.heap.size w w' := by
  obtain ⟨c, hc⟩ : ∃ c, chk s = c := ⟨_, rfl⟩
  have HC := Lib.hid hc
  rw [hc]
  clear hc
  go_enter Tryd.func50, Tryd.ntmps50
  go_wp2_with (refine bxSV rfl (.tmp 0) rfl s rfl ?_; intro w1 b1 B1)
  refine (yparts_any _).mono ?_
  rintro e w2 ⟨rfl, b2⟩
  have b12 := below_seq b1 b2
  have B2 := B1.keep (S := fun _ => False) (Mod.of_below b2) id
  clear B1 b1 b2
  go_wp2_with fail
  go_loopg [6] 8 (fun kx s6 wr => ∃ (k : Nat) (z : Int), z = k ∧ s6 = .int .i64 z ∧ k ≤ 8 ∧ kx = 8 - k ∧ Below w.heap.size w wr ∧ Blk wr w.heap.size 31 s.cells ∧ Hid (∀ i, i < k → vld1 i s = true))
  case atStart => exact ⟨0, 0, rfl, rfl, by omega, rfl, b12, B2, Lib.hid (fun i hi => by omega)⟩
  case round =>
    obtain ⟨k, z, hz, rfl, hk, rfl, bel, hB, HV⟩ := hrel
    clear B2 b12
    by_cases hlt : k < 8
    · clear hk
      rcases (show k = 0 ∨ k = 1 ∨ k = 2 ∨ k = 3 ∨ k = 4 ∨ k = 5 ∨ k = 6 ∨ k = 7 from by omega) with rfl | rfl | rfl | rfl | rfl | rfl | rfl | rfl
      · obtain rfl : z = 0 := by omega
        clear hz hlt
        have ix : ∀ w, (Instr.index 113 (.agg partsV) (.int .i64 0)).run Tryd.prog w = .ok (.agg rowP0) w := fun _ => by kernel_rfl
        have V := Lib.hid (yvalid0 s)
        have HN := Lib.hid (chk_no s 0 (by omega))
        have HY := Lib.hid (upto_succ (p := fun i => vld1 i s = true) HV.out)
        obtain ⟨b, hb⟩ : ∃ b, vld1 0 s = b := ⟨_, rfl⟩
        have HW := Lib.hid hb
        rw [hb] at V
        clear hb
        cases b with
        | false =>
          go_wp2_with (first
            | (refine wpList_newS rfl rfl 112 4 rfl rfl (.tmp 8) rfl rfl _ alP rowP0 (fun _ => rfl) (fun _ => rfl) iP rfl (by kernel_rfl) ?_; intro w3 b3 B3; have c2 : w3.cell? ⟨wr.heap.size, 2, none⟩ = some (.func (.func 72) #[] #[]) := B3.cell 2; have B4 := hB.keep (S := fun _ => False) (Mod.of_below b3) id)
            | (refine ldS rfl (.tmp 1) rfl _ rfl s B4.lies ?_))
          refine (V.out _).mono ?_
          rintro e w4 ⟨rfl, b4⟩
          go_wp2_with fail
          go_ret
          exact ⟨ret1 (by rw [← HC.out, HN.out HW.out]), bel.trans ((below_seq b3 b4).mono bel.size)⟩
        | true =>
          go_wp2_with (first
            | (refine wpList_newS rfl rfl 112 4 rfl rfl (.tmp 8) rfl rfl _ alP rowP0 (fun _ => rfl) (fun _ => rfl) iP rfl (by kernel_rfl) ?_; intro w3 b3 B3; have c2 : w3.cell? ⟨wr.heap.size, 2, none⟩ = some (.func (.func 72) #[] #[]) := B3.cell 2; have B4 := hB.keep (S := fun _ => False) (Mod.of_below b3) id)
            | (refine ldS rfl (.tmp 1) rfl _ rfl s B4.lies ?_))
          refine (V.out _).mono ?_
          rintro e w4 ⟨rfl, b4⟩
          go_wp2_with fail
          go_roundg (8 - 1)
          case measure => omega
          case rel => exact ⟨1, 1, rfl, rfl, by omega, rfl, bel.trans ((below_seq b3 b4).mono bel.size), B4.keep (S := fun _ => False) (Mod.of_below b4) id, Lib.hid (HY.out HW.out)⟩
      · obtain rfl : z = 1 := by omega
        clear hz hlt
        have ix : ∀ w, (Instr.index 113 (.agg partsV) (.int .i64 1)).run Tryd.prog w = .ok (.agg rowP1) w := fun _ => by kernel_rfl
        have V := Lib.hid (yvalid1 s)
        have HN := Lib.hid (chk_no s 1 (by omega))
        have HY := Lib.hid (upto_succ (p := fun i => vld1 i s = true) HV.out)
        obtain ⟨b, hb⟩ : ∃ b, vld1 1 s = b := ⟨_, rfl⟩
        have HW := Lib.hid hb
        rw [hb] at V
        clear hb
        cases b with
        | false =>
          go_wp2_with (first
            | (refine wpList_newS rfl rfl 112 4 rfl rfl (.tmp 8) rfl rfl _ alP rowP1 (fun _ => rfl) (fun _ => rfl) iP rfl (by kernel_rfl) ?_; intro w3 b3 B3; have c2 : w3.cell? ⟨wr.heap.size, 2, none⟩ = some (.func (.func 75) #[] #[]) := B3.cell 2; have B4 := hB.keep (S := fun _ => False) (Mod.of_below b3) id)
            | (refine ldS rfl (.tmp 1) rfl _ rfl s B4.lies ?_))
          refine (V.out _).mono ?_
          rintro e w4 ⟨rfl, b4⟩
          go_wp2_with fail
          go_ret
          exact ⟨ret1 (by rw [← HC.out, HN.out HW.out]), bel.trans ((below_seq b3 b4).mono bel.size)⟩
        | true =>
          go_wp2_with (first
            | (refine wpList_newS rfl rfl 112 4 rfl rfl (.tmp 8) rfl rfl _ alP rowP1 (fun _ => rfl) (fun _ => rfl) iP rfl (by kernel_rfl) ?_; intro w3 b3 B3; have c2 : w3.cell? ⟨wr.heap.size, 2, none⟩ = some (.func (.func 75) #[] #[]) := B3.cell 2; have B4 := hB.keep (S := fun _ => False) (Mod.of_below b3) id)
            | (refine ldS rfl (.tmp 1) rfl _ rfl s B4.lies ?_))
          refine (V.out _).mono ?_
          rintro e w4 ⟨rfl, b4⟩
          go_wp2_with fail
          go_roundg (8 - 2)
          case measure => omega
          case rel => exact ⟨2, 2, rfl, rfl, by omega, rfl, bel.trans ((below_seq b3 b4).mono bel.size), B4.keep (S := fun _ => False) (Mod.of_below b4) id, Lib.hid (HY.out HW.out)⟩
      · obtain rfl : z = 2 := by omega
        clear hz hlt
        have ix : ∀ w, (Instr.index 113 (.agg partsV) (.int .i64 2)).run Tryd.prog w = .ok (.agg rowP2) w := fun _ => by kernel_rfl
        have V := Lib.hid (yvalid2 s)
        have HN := Lib.hid (chk_no s 2 (by omega))
        have HY := Lib.hid (upto_succ (p := fun i => vld1 i s = true) HV.out)
        obtain ⟨b, hb⟩ : ∃ b, vld1 2 s = b := ⟨_, rfl⟩
        have HW := Lib.hid hb
        rw [hb] at V
        clear hb
        cases b with
        | false =>
          go_wp2_with (first
            | (refine wpList_newS rfl rfl 112 4 rfl rfl (.tmp 8) rfl rfl _ alP rowP2 (fun _ => rfl) (fun _ => rfl) iP rfl (by kernel_rfl) ?_; intro w3 b3 B3; have c2 : w3.cell? ⟨wr.heap.size, 2, none⟩ = some (.func (.func 78) #[] #[]) := B3.cell 2; have B4 := hB.keep (S := fun _ => False) (Mod.of_below b3) id)
            | (refine ldS rfl (.tmp 1) rfl _ rfl s B4.lies ?_))
          refine (V.out _).mono ?_
          rintro e w4 ⟨rfl, b4⟩
          go_wp2_with fail
          go_ret
          exact ⟨ret1 (by rw [← HC.out, HN.out HW.out]), bel.trans ((below_seq b3 b4).mono bel.size)⟩
        | true =>
          go_wp2_with (first
            | (refine wpList_newS rfl rfl 112 4 rfl rfl (.tmp 8) rfl rfl _ alP rowP2 (fun _ => rfl) (fun _ => rfl) iP rfl (by kernel_rfl) ?_; intro w3 b3 B3; have c2 : w3.cell? ⟨wr.heap.size, 2, none⟩ = some (.func (.func 78) #[] #[]) := B3.cell 2; have B4 := hB.keep (S := fun _ => False) (Mod.of_below b3) id)
            | (refine ldS rfl (.tmp 1) rfl _ rfl s B4.lies ?_))
          refine (V.out _).mono ?_
          rintro e w4 ⟨rfl, b4⟩
          go_wp2_with fail
          go_roundg (8 - 3)
          case measure => omega
          case rel => exact ⟨3, 3, rfl, rfl, by omega, rfl, bel.trans ((below_seq b3 b4).mono bel.size), B4.keep (S := fun _ => False) (Mod.of_below b4) id, Lib.hid (HY.out HW.out)⟩
      · obtain rfl : z = 3 := by omega
        clear hz hlt
        have ix : ∀ w, (Instr.index 113 (.agg partsV) (.int .i64 3)).run Tryd.prog w = .ok (.agg rowP3) w := fun _ => by kernel_rfl
        have V := Lib.hid (yvalid3 s)
        have HN := Lib.hid (chk_no s 3 (by omega))
        have HY := Lib.hid (upto_succ (p := fun i => vld1 i s = true) HV.out)
        obtain ⟨b, hb⟩ : ∃ b, vld1 3 s = b := ⟨_, rfl⟩
        have HW := Lib.hid hb
        rw [hb] at V
        clear hb
        cases b with
        | false =>
          go_wp2_with (first
            | (refine wpList_newS rfl rfl 112 4 rfl rfl (.tmp 8) rfl rfl _ alP rowP3 (fun _ => rfl) (fun _ => rfl) iP rfl (by kernel_rfl) ?_; intro w3 b3 B3; have c2 : w3.cell? ⟨wr.heap.size, 2, none⟩ = some (.func (.func 81) #[] #[]) := B3.cell 2; have B4 := hB.keep (S := fun _ => False) (Mod.of_below b3) id)
            | (refine ldS rfl (.tmp 1) rfl _ rfl s B4.lies ?_))
          refine (V.out _).mono ?_
          rintro e w4 ⟨rfl, b4⟩
          go_wp2_with fail
          go_ret
          exact ⟨ret1 (by rw [← HC.out, HN.out HW.out]), bel.trans ((below_seq b3 b4).mono bel.size)⟩
        | true =>
          go_wp2_with (first
            | (refine wpList_newS rfl rfl 112 4 rfl rfl (.tmp 8) rfl rfl _ alP rowP3 (fun _ => rfl) (fun _ => rfl) iP rfl (by kernel_rfl) ?_; intro w3 b3 B3; have c2 : w3.cell? ⟨wr.heap.size, 2, none⟩ = some (.func (.func 81) #[] #[]) := B3.cell 2; have B4 := hB.keep (S := fun _ => False) (Mod.of_below b3) id)
            | (refine ldS rfl (.tmp 1) rfl _ rfl s B4.lies ?_))
          refine (V.out _).mono ?_
          rintro e w4 ⟨rfl, b4⟩
          go_wp2_with fail
          go_roundg (8 - 4)
          case measure => omega
          case rel => exact ⟨4, 4, rfl, rfl, by omega, rfl, bel.trans ((below_seq b3 b4).mono bel.size), B4.keep (S := fun _ => False) (Mod.of_below b4) id, Lib.hid (HY.out HW.out)⟩
      · obtain rfl : z = 4 := by omega
        clear hz hlt
        have ix : ∀ w, (Instr.index 113 (.agg partsV) (.int .i64 4)).run Tryd.prog w = .ok (.agg rowP4) w := fun _ => by kernel_rfl
        have V := Lib.hid (yvalid4 s)
        have HN := Lib.hid (chk_no s 4 (by omega))
        have HY := Lib.hid (upto_succ (p := fun i => vld1 i s = true) HV.out)
        obtain ⟨b, hb⟩ : ∃ b, vld1 4 s = b := ⟨_, rfl⟩
        have HW := Lib.hid hb
        rw [hb] at V
        clear hb
        cases b with
        | false =>
          go_wp2_with (first
            | (refine wpList_newS rfl rfl 112 4 rfl rfl (.tmp 8) rfl rfl _ alP rowP4 (fun _ => rfl) (fun _ => rfl) iP rfl (by kernel_rfl) ?_; intro w3 b3 B3; have c2 : w3.cell? ⟨wr.heap.size, 2, none⟩ = some (.func (.func 84) #[] #[]) := B3.cell 2; have B4 := hB.keep (S := fun _ => False) (Mod.of_below b3) id)
            | (refine ldS rfl (.tmp 1) rfl _ rfl s B4.lies ?_))
          refine (V.out _).mono ?_
          rintro e w4 ⟨rfl, b4⟩
          go_wp2_with fail
          go_ret
          exact ⟨ret1 (by rw [← HC.out, HN.out HW.out]), bel.trans ((below_seq b3 b4).mono bel.size)⟩
        | true =>
          go_wp2_with (first
            | (refine wpList_newS rfl rfl 112 4 rfl rfl (.tmp 8) rfl rfl _ alP rowP4 (fun _ => rfl) (fun _ => rfl) iP rfl (by kernel_rfl) ?_; intro w3 b3 B3; have c2 : w3.cell? ⟨wr.heap.size, 2, none⟩ = some (.func (.func 84) #[] #[]) := B3.cell 2; have B4 := hB.keep (S := fun _ => False) (Mod.of_below b3) id)
            | (refine ldS rfl (.tmp 1) rfl _ rfl s B4.lies ?_))
          refine (V.out _).mono ?_
          rintro e w4 ⟨rfl, b4⟩
          go_wp2_with fail
          go_roundg (8 - 5)
          case measure => omega
          case rel => exact ⟨5, 5, rfl, rfl, by omega, rfl, bel.trans ((below_seq b3 b4).mono bel.size), B4.keep (S := fun _ => False) (Mod.of_below b4) id, Lib.hid (HY.out HW.out)⟩
      · obtain rfl : z = 5 := by omega
        clear hz hlt
        have ix : ∀ w, (Instr.index 113 (.agg partsV) (.int .i64 5)).run Tryd.prog w = .ok (.agg rowP5) w := fun _ => by kernel_rfl
        have V := Lib.hid (yvalid5 s)
        have HN := Lib.hid (chk_no s 5 (by omega))
        have HY := Lib.hid (upto_succ (p := fun i => vld1 i s = true) HV.out)
        obtain ⟨b, hb⟩ : ∃ b, vld1 5 s = b := ⟨_, rfl⟩
        have HW := Lib.hid hb
        rw [hb] at V
        clear hb
        cases b with
        | false =>
          go_wp2_with (first
            | (refine wpList_newS rfl rfl 112 4 rfl rfl (.tmp 8) rfl rfl _ alP rowP5 (fun _ => rfl) (fun _ => rfl) iP rfl (by kernel_rfl) ?_; intro w3 b3 B3; have c2 : w3.cell? ⟨wr.heap.size, 2, none⟩ = some (.func (.func 87) #[] #[]) := B3.cell 2; have B4 := hB.keep (S := fun _ => False) (Mod.of_below b3) id)
            | (refine ldS rfl (.tmp 1) rfl _ rfl s B4.lies ?_))
          refine (V.out _).mono ?_
          rintro e w4 ⟨rfl, b4⟩
          go_wp2_with fail
          go_ret
          exact ⟨ret1 (by rw [← HC.out, HN.out HW.out]), bel.trans ((below_seq b3 b4).mono bel.size)⟩
        | true =>
          go_wp2_with (first
            | (refine wpList_newS rfl rfl 112 4 rfl rfl (.tmp 8) rfl rfl _ alP rowP5 (fun _ => rfl) (fun _ => rfl) iP rfl (by kernel_rfl) ?_; intro w3 b3 B3; have c2 : w3.cell? ⟨wr.heap.size, 2, none⟩ = some (.func (.func 87) #[] #[]) := B3.cell 2; have B4 := hB.keep (S := fun _ => False) (Mod.of_below b3) id)
            | (refine ldS rfl (.tmp 1) rfl _ rfl s B4.lies ?_))
          refine (V.out _).mono ?_
          rintro e w4 ⟨rfl, b4⟩
          go_wp2_with fail
          go_roundg (8 - 6)
          case measure => omega
          case rel => exact ⟨6, 6, rfl, rfl, by omega, rfl, bel.trans ((below_seq b3 b4).mono bel.size), B4.keep (S := fun _ => False) (Mod.of_below b4) id, Lib.hid (HY.out HW.out)⟩
      · obtain rfl : z = 6 := by omega
        clear hz hlt
        have ix : ∀ w, (Instr.index 113 (.agg partsV) (.int .i64 6)).run Tryd.prog w = .ok (.agg rowP6) w := fun _ => by kernel_rfl
        have V := Lib.hid (yvalid6 s)
        have HN := Lib.hid (chk_no s 6 (by omega))
        have HY := Lib.hid (upto_succ (p := fun i => vld1 i s = true) HV.out)
        obtain ⟨b, hb⟩ : ∃ b, vld1 6 s = b := ⟨_, rfl⟩
        have HW := Lib.hid hb
        rw [hb] at V
        clear hb
        cases b with
        | false =>
          go_wp2_with (first
            | (refine wpList_newS rfl rfl 112 4 rfl rfl (.tmp 8) rfl rfl _ alP rowP6 (fun _ => rfl) (fun _ => rfl) iP rfl (by kernel_rfl) ?_; intro w3 b3 B3; have c2 : w3.cell? ⟨wr.heap.size, 2, none⟩ = some (.func (.func 90) #[] #[]) := B3.cell 2; have B4 := hB.keep (S := fun _ => False) (Mod.of_below b3) id)
            | (refine ldS rfl (.tmp 1) rfl _ rfl s B4.lies ?_))
          refine (V.out _).mono ?_
          rintro e w4 ⟨rfl, b4⟩
          go_wp2_with fail
          go_ret
          exact ⟨ret1 (by rw [← HC.out, HN.out HW.out]), bel.trans ((below_seq b3 b4).mono bel.size)⟩
        | true =>
          go_wp2_with (first
            | (refine wpList_newS rfl rfl 112 4 rfl rfl (.tmp 8) rfl rfl _ alP rowP6 (fun _ => rfl) (fun _ => rfl) iP rfl (by kernel_rfl) ?_; intro w3 b3 B3; have c2 : w3.cell? ⟨wr.heap.size, 2, none⟩ = some (.func (.func 90) #[] #[]) := B3.cell 2; have B4 := hB.keep (S := fun _ => False) (Mod.of_below b3) id)
            | (refine ldS rfl (.tmp 1) rfl _ rfl s B4.lies ?_))
          refine (V.out _).mono ?_
          rintro e w4 ⟨rfl, b4⟩
          go_wp2_with fail
          go_roundg (8 - 7)
          case measure => omega
          case rel => exact ⟨7, 7, rfl, rfl, by omega, rfl, bel.trans ((below_seq b3 b4).mono bel.size), B4.keep (S := fun _ => False) (Mod.of_below b4) id, Lib.hid (HY.out HW.out)⟩
      · obtain rfl : z = 7 := by omega
        clear hz hlt
        have ix : ∀ w, (Instr.index 113 (.agg partsV) (.int .i64 7)).run Tryd.prog w = .ok (.agg rowP7) w := fun _ => by kernel_rfl
        have V := Lib.hid (yvalid7 s)
        have HN := Lib.hid (chk_no s 7 (by omega))
        have HY := Lib.hid (upto_succ (p := fun i => vld1 i s = true) HV.out)
        obtain ⟨b, hb⟩ : ∃ b, vld1 7 s = b := ⟨_, rfl⟩
        have HW := Lib.hid hb
        rw [hb] at V
        clear hb
        cases b with
        | false =>
          go_wp2_with (first
            | (refine wpList_newS rfl rfl 112 4 rfl rfl (.tmp 8) rfl rfl _ alP rowP7 (fun _ => rfl) (fun _ => rfl) iP rfl (by kernel_rfl) ?_; intro w3 b3 B3; have c2 : w3.cell? ⟨wr.heap.size, 2, none⟩ = some (.func (.func 94) #[] #[]) := B3.cell 2; have B4 := hB.keep (S := fun _ => False) (Mod.of_below b3) id)
            | (refine ldS rfl (.tmp 1) rfl _ rfl s B4.lies ?_))
          refine (V.out _).mono ?_
          rintro e w4 ⟨rfl, b4⟩
          go_wp2_with fail
          go_ret
          exact ⟨ret1 (by rw [← HC.out, HN.out HW.out]), bel.trans ((below_seq b3 b4).mono bel.size)⟩
        | true =>
          go_wp2_with (first
            | (refine wpList_newS rfl rfl 112 4 rfl rfl (.tmp 8) rfl rfl _ alP rowP7 (fun _ => rfl) (fun _ => rfl) iP rfl (by kernel_rfl) ?_; intro w3 b3 B3; have c2 : w3.cell? ⟨wr.heap.size, 2, none⟩ = some (.func (.func 94) #[] #[]) := B3.cell 2; have B4 := hB.keep (S := fun _ => False) (Mod.of_below b3) id)
            | (refine ldS rfl (.tmp 1) rfl _ rfl s B4.lies ?_))
          refine (V.out _).mono ?_
          rintro e w4 ⟨rfl, b4⟩
          go_wp2_with fail
          go_roundg (8 - 8)
          case measure => omega
          case rel => exact ⟨8, 8, rfl, rfl, by omega, rfl, bel.trans ((below_seq b3 b4).mono bel.size), B4.keep (S := fun _ => False) (Mod.of_below b4) id, Lib.hid (HY.out HW.out)⟩
    · obtain rfl : k = 8 := by omega
      obtain rfl : z = 8 := by omega
      have e := HC.out
      rw [chk_yes s HV.out] at e
      subst e
      clear hz hlt hk
      go_wp2_with fail
      go_ret
      exact ⟨rfl, bel⟩


end Go.Proofs.YtgpobhnonjdamaaDoor
