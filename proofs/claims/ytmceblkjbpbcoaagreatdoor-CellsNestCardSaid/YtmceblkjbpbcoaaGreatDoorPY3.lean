/- Contracts of layers below. -/
import Derived.Test.YtmceblkjbpbcoaaGreatDoorPYLaws
import Derived.Laws.BitsAllLaws
namespace Go.Proofs.YtmceblkjbpbcoaaGreatDoor
set_option maxRecDepth 100000
set_option maxHeartbeats 4000000
open Go.ChangeShapes Go.WideShapes Go.ChangeAt Go.RowKit
section
def qnu : Array Value := #[.int .u16 1, .func (.func 183) #[] #[], .func (.func 184) #[] #[], .func (.func 185) #[] #[]]
def qnt : Array Value := #[.int .u16 2, .func (.func 186) #[] #[], .func (.func 187) #[] #[], .func (.func 188) #[] #[]]
def qns : Array Value := #[.int .u16 4, .func (.func 189) #[] #[], .func (.func 190) #[] #[], .func (.func 191) #[] #[]]
def qnr : Array Value := #[.int .u16 8, .func (.func 192) #[] #[], .func (.func 193) #[] #[], .func (.func 194) #[] #[]]
def qnq : Array Value := #[.int .u16 16, .func (.func 195) #[] #[], .func (.func 196) #[] #[], .func (.func 197) #[] #[]]
def qnp : Array Value := #[.int .u16 32, .func (.func 198) #[] #[], .func (.func 199) #[] #[], .func (.func 200) #[] #[]]
def qno : Array Value := #[.int .u16 64, .func (.func 201) #[] #[], .func (.func 202) #[] #[], .func (.func 204) #[] #[]]
def qnn : Array Value := #[.int .u16 128, .func (.func 205) #[] #[], .func (.func 206) #[] #[], .func (.func 207) #[] #[]]
def qbd : Array Value := #[.int .u16 1, .func (.func 183) #[] #[], .func (.func 184) #[] #[], .func (.func 185) #[] #[], .int .u16 2, .func (.func 186) #[] #[], .func (.func 187) #[] #[], .func (.func 188) #[] #[], .int .u16 4, .func (.func 189) #[] #[], .func (.func 190) #[] #[], .func (.func 191) #[] #[], .int .u16 8, .func (.func 192) #[] #[], .func (.func 193) #[] #[], .func (.func 194) #[] #[], .int .u16 16, .func (.func 195) #[] #[], .func (.func 196) #[] #[], .func (.func 197) #[] #[], .int .u16 32, .func (.func 198) #[] #[], .func (.func 199) #[] #[], .func (.func 200) #[] #[], .int .u16 64, .func (.func 201) #[] #[], .func (.func 202) #[] #[], .func (.func 204) #[] #[], .int .u16 128, .func (.func 205) #[] #[], .func (.func 206) #[] #[], .func (.func 207) #[] #[]]
def qwv : Array Value := #[.int .u16 0, .nilFunc, .nilFunc, .nilFunc, .int .u16 0, .nilFunc, .nilFunc, .nilFunc, .int .u16 0, .nilFunc, .nilFunc, .nilFunc, .int .u16 0, .nilFunc, .nilFunc, .nilFunc, .int .u16 0, .nilFunc, .nilFunc, .nilFunc, .int .u16 0, .nilFunc, .nilFunc, .nilFunc, .int .u16 0, .nilFunc, .nilFunc, .nilFunc, .int .u16 0, .nilFunc, .nilFunc, .nilFunc]
def zeroP : Array Value := #[.int .u16 0, .nilFunc, .nilFunc, .nilFunc]
theorem iPs : (Tryz.prog.info? 248).map (·.size) = some 32 := by kernel_rfl
theorem iP : (Tryz.prog.info? 247).map (·.size) = some 4 := by kernel_rfl
theorem alPs (w : World) : (Instr.alloc 248 true (.tuple #[])).run Tryz.prog w = .ok (.pointer (some ⟨w.heap.size, 0, none⟩)) (w.alloc (.cells qwv 248)) := by kernel_rfl
theorem alP (w : World) : (Instr.alloc 247 true (.tuple #[])).run Tryz.prog w = .ok (.pointer (some ⟨w.heap.size, 0, none⟩)) (w.alloc (.cells zeroP 247)) := by kernel_rfl
theorem qg3 (w : World) :
 Calls Tryz.prog 152 #[] w fun e w' => e = .returned (.agg qbd) /\ Below w.heap.size w w' := by
 go_enter Tryz.func152, Tryz.ntmps152
 go_wp2_with (first
  | (refine qao rfl 248 rfl _ alPs ?_; intro w1 b1 B1)
  | (refine qah rfl 248 (.tmp 0) (.tmp 9) rfl rfl _ rfl qbd rfl 248 qwv B1 iPs rfl (by kernel_rfl) ?_; intro w2 m2 B2))
 refine bodyPost_ret (v := .agg qbd) (qbf rfl _ _ w.heap.size 248 qbd _ rfl B2 Tryz.underlying248 rfl iPs) rfl ⟨rfl, b1.trans (m2.below b1.size (fun k hk => by omega))⟩
theorem qm7 (s : Sty) (w : World) :
 Calls Tryz.prog 136 #[.agg s.cells] w fun e w' => e = .returned (.int .i64 (chk s)) /\ Below w.heap.size w w' := by
 obtain ⟨c, hc⟩ : ∃ c, chk s = c := ⟨_, rfl⟩
 have HC := xaa hc
 rw [hc]
 clear hc
 go_enter Tryz.func136, Tryz.ntmps136
 go_wp2_with (refine bxSV rfl (.tmp 0) rfl s rfl ?_; intro w1 b1 B1)
 refine (qg3 _).mono ?_
 rintro e w2 ⟨rfl, b2⟩
 have b12 := xaq b1 b2
 have B2 := B1.kb b2
 clear B1 b1 b2
 go_wp2_with fail
 go_loopg [6] 8 (fun kx s6 wr => ∃ (k : Nat) (z : Int), z = k /\ s6 = .int .i64 z /\ k <= 8 /\ kx = 8 - k /\ Below w.heap.size w wr /\ Blk wr w.heap.size 44 s.cells /\ Hid (∀ i, i < k -> vld1 i s = true))
 case atStart => exact ⟨0, 0, rfl, rfl, by omega, rfl, b12, B2, xaa (fun i hi => by omega)⟩
 case round =>
  obtain ⟨k, z, hz, rfl, hk, rfl, bel, hB, HV⟩ := hrel
  clear B2 b12
  by_cases hlt : k < 8
  ·clear hk
   rcases (show k = 0 \/ k = 1 \/ k = 2 \/ k = 3 \/ k = 4 \/ k = 5 \/ k = 6 \/ k = 7 from by omega) with rfl | rfl | rfl | rfl | rfl | rfl | rfl | rfl
   ·obtain rfl : z = 0 := by omega
    clear hz hlt
    have ix : ∀ w, (Instr.index 248 (.agg qbd) (.int .i64 0)).run Tryz.prog w = .ok (.agg qnu) w := fun _ => by kernel_rfl
    have V := xaa (qx8 s)
    have HN := xaa (qe5 s 0 (by omega))
    have HY := xaa (qbn (p := fun i => vld1 i s = true) HV.out)
    obtain ⟨b, hb⟩ : ∃ b, vld1 0 s = b := ⟨_, rfl⟩
    have HW := xaa hb
    rw [hb] at V
    clear hb
    cases b with
    | false =>
      go_wp2_with (first
       | (refine qab rfl rfl 247 4 rfl rfl (.tmp 8) rfl rfl _ alP qnu (fun _ => rfl) (fun _ => rfl) iP rfl (by kernel_rfl) ?_; intro w3 b3 B3; have c2 : w3.cell? ⟨wr.heap.size, 2, none⟩ = some (.func (.func 184) #[] #[]) := B3.cell 2; have B4 := hB.kb b3)
       | (refine ldS rfl (.tmp 1) rfl _ rfl s B4.lies ?_))
      refine (V.out _).mono ?_
      rintro e w4 ⟨rfl, b4⟩
      go_wp2_with fail
      go_ret
      exact ⟨qb7 (by rw [<- HC.out, HN.out HW.out]), bel.trans ((xaq b3 b4).mono bel.size)⟩
    | true =>
      go_wp2_with (first
       | (refine qab rfl rfl 247 4 rfl rfl (.tmp 8) rfl rfl _ alP qnu (fun _ => rfl) (fun _ => rfl) iP rfl (by kernel_rfl) ?_; intro w3 b3 B3; have c2 : w3.cell? ⟨wr.heap.size, 2, none⟩ = some (.func (.func 184) #[] #[]) := B3.cell 2; have B4 := hB.kb b3)
       | (refine ldS rfl (.tmp 1) rfl _ rfl s B4.lies ?_))
      refine (V.out _).mono ?_
      rintro e w4 ⟨rfl, b4⟩
      go_wp2_with fail
      go_roundg (8 - 1)
      case measure => omega
      case rel => exact ⟨1, 1, rfl, rfl, by omega, rfl, bel.trans ((xaq b3 b4).mono bel.size), B4.kb b4, xaa (HY.out HW.out)⟩
   ·obtain rfl : z = 1 := by omega
    clear hz hlt
    have ix : ∀ w, (Instr.index 248 (.agg qbd) (.int .i64 1)).run Tryz.prog w = .ok (.agg qnt) w := fun _ => by kernel_rfl
    have V := xaa (qx7 s)
    have HN := xaa (qe5 s 1 (by omega))
    have HY := xaa (qbn (p := fun i => vld1 i s = true) HV.out)
    obtain ⟨b, hb⟩ : ∃ b, vld1 1 s = b := ⟨_, rfl⟩
    have HW := xaa hb
    rw [hb] at V
    clear hb
    cases b with
    | false =>
      go_wp2_with (first
       | (refine qab rfl rfl 247 4 rfl rfl (.tmp 8) rfl rfl _ alP qnt (fun _ => rfl) (fun _ => rfl) iP rfl (by kernel_rfl) ?_; intro w3 b3 B3; have c2 : w3.cell? ⟨wr.heap.size, 2, none⟩ = some (.func (.func 187) #[] #[]) := B3.cell 2; have B4 := hB.kb b3)
       | (refine ldS rfl (.tmp 1) rfl _ rfl s B4.lies ?_))
      refine (V.out _).mono ?_
      rintro e w4 ⟨rfl, b4⟩
      go_wp2_with fail
      go_ret
      exact ⟨qb7 (by rw [<- HC.out, HN.out HW.out]), bel.trans ((xaq b3 b4).mono bel.size)⟩
    | true =>
      go_wp2_with (first
       | (refine qab rfl rfl 247 4 rfl rfl (.tmp 8) rfl rfl _ alP qnt (fun _ => rfl) (fun _ => rfl) iP rfl (by kernel_rfl) ?_; intro w3 b3 B3; have c2 : w3.cell? ⟨wr.heap.size, 2, none⟩ = some (.func (.func 187) #[] #[]) := B3.cell 2; have B4 := hB.kb b3)
       | (refine ldS rfl (.tmp 1) rfl _ rfl s B4.lies ?_))
      refine (V.out _).mono ?_
      rintro e w4 ⟨rfl, b4⟩
      go_wp2_with fail
      go_roundg (8 - 2)
      case measure => omega
      case rel => exact ⟨2, 2, rfl, rfl, by omega, rfl, bel.trans ((xaq b3 b4).mono bel.size), B4.kb b4, xaa (HY.out HW.out)⟩
   ·obtain rfl : z = 2 := by omega
    clear hz hlt
    have ix : ∀ w, (Instr.index 248 (.agg qbd) (.int .i64 2)).run Tryz.prog w = .ok (.agg qns) w := fun _ => by kernel_rfl
    have V := xaa (qx6 s)
    have HN := xaa (qe5 s 2 (by omega))
    have HY := xaa (qbn (p := fun i => vld1 i s = true) HV.out)
    obtain ⟨b, hb⟩ : ∃ b, vld1 2 s = b := ⟨_, rfl⟩
    have HW := xaa hb
    rw [hb] at V
    clear hb
    cases b with
    | false =>
      go_wp2_with (first
       | (refine qab rfl rfl 247 4 rfl rfl (.tmp 8) rfl rfl _ alP qns (fun _ => rfl) (fun _ => rfl) iP rfl (by kernel_rfl) ?_; intro w3 b3 B3; have c2 : w3.cell? ⟨wr.heap.size, 2, none⟩ = some (.func (.func 190) #[] #[]) := B3.cell 2; have B4 := hB.kb b3)
       | (refine ldS rfl (.tmp 1) rfl _ rfl s B4.lies ?_))
      refine (V.out _).mono ?_
      rintro e w4 ⟨rfl, b4⟩
      go_wp2_with fail
      go_ret
      exact ⟨qb7 (by rw [<- HC.out, HN.out HW.out]), bel.trans ((xaq b3 b4).mono bel.size)⟩
    | true =>
      go_wp2_with (first
       | (refine qab rfl rfl 247 4 rfl rfl (.tmp 8) rfl rfl _ alP qns (fun _ => rfl) (fun _ => rfl) iP rfl (by kernel_rfl) ?_; intro w3 b3 B3; have c2 : w3.cell? ⟨wr.heap.size, 2, none⟩ = some (.func (.func 190) #[] #[]) := B3.cell 2; have B4 := hB.kb b3)
       | (refine ldS rfl (.tmp 1) rfl _ rfl s B4.lies ?_))
      refine (V.out _).mono ?_
      rintro e w4 ⟨rfl, b4⟩
      go_wp2_with fail
      go_roundg (8 - 3)
      case measure => omega
      case rel => exact ⟨3, 3, rfl, rfl, by omega, rfl, bel.trans ((xaq b3 b4).mono bel.size), B4.kb b4, xaa (HY.out HW.out)⟩
   ·obtain rfl : z = 3 := by omega
    clear hz hlt
    have ix : ∀ w, (Instr.index 248 (.agg qbd) (.int .i64 3)).run Tryz.prog w = .ok (.agg qnr) w := fun _ => by kernel_rfl
    have V := xaa (qx5 s)
    have HN := xaa (qe5 s 3 (by omega))
    have HY := xaa (qbn (p := fun i => vld1 i s = true) HV.out)
    obtain ⟨b, hb⟩ : ∃ b, vld1 3 s = b := ⟨_, rfl⟩
    have HW := xaa hb
    rw [hb] at V
    clear hb
    cases b with
    | false =>
      go_wp2_with (first
       | (refine qab rfl rfl 247 4 rfl rfl (.tmp 8) rfl rfl _ alP qnr (fun _ => rfl) (fun _ => rfl) iP rfl (by kernel_rfl) ?_; intro w3 b3 B3; have c2 : w3.cell? ⟨wr.heap.size, 2, none⟩ = some (.func (.func 193) #[] #[]) := B3.cell 2; have B4 := hB.kb b3)
       | (refine ldS rfl (.tmp 1) rfl _ rfl s B4.lies ?_))
      refine (V.out _).mono ?_
      rintro e w4 ⟨rfl, b4⟩
      go_wp2_with fail
      go_ret
      exact ⟨qb7 (by rw [<- HC.out, HN.out HW.out]), bel.trans ((xaq b3 b4).mono bel.size)⟩
    | true =>
      go_wp2_with (first
       | (refine qab rfl rfl 247 4 rfl rfl (.tmp 8) rfl rfl _ alP qnr (fun _ => rfl) (fun _ => rfl) iP rfl (by kernel_rfl) ?_; intro w3 b3 B3; have c2 : w3.cell? ⟨wr.heap.size, 2, none⟩ = some (.func (.func 193) #[] #[]) := B3.cell 2; have B4 := hB.kb b3)
       | (refine ldS rfl (.tmp 1) rfl _ rfl s B4.lies ?_))
      refine (V.out _).mono ?_
      rintro e w4 ⟨rfl, b4⟩
      go_wp2_with fail
      go_roundg (8 - 4)
      case measure => omega
      case rel => exact ⟨4, 4, rfl, rfl, by omega, rfl, bel.trans ((xaq b3 b4).mono bel.size), B4.kb b4, xaa (HY.out HW.out)⟩
   ·obtain rfl : z = 4 := by omega
    clear hz hlt
    have ix : ∀ w, (Instr.index 248 (.agg qbd) (.int .i64 4)).run Tryz.prog w = .ok (.agg qnq) w := fun _ => by kernel_rfl
    have V := xaa (qx4 s)
    have HN := xaa (qe5 s 4 (by omega))
    have HY := xaa (qbn (p := fun i => vld1 i s = true) HV.out)
    obtain ⟨b, hb⟩ : ∃ b, vld1 4 s = b := ⟨_, rfl⟩
    have HW := xaa hb
    rw [hb] at V
    clear hb
    cases b with
    | false =>
      go_wp2_with (first
       | (refine qab rfl rfl 247 4 rfl rfl (.tmp 8) rfl rfl _ alP qnq (fun _ => rfl) (fun _ => rfl) iP rfl (by kernel_rfl) ?_; intro w3 b3 B3; have c2 : w3.cell? ⟨wr.heap.size, 2, none⟩ = some (.func (.func 196) #[] #[]) := B3.cell 2; have B4 := hB.kb b3)
       | (refine ldS rfl (.tmp 1) rfl _ rfl s B4.lies ?_))
      refine (V.out _).mono ?_
      rintro e w4 ⟨rfl, b4⟩
      go_wp2_with fail
      go_ret
      exact ⟨qb7 (by rw [<- HC.out, HN.out HW.out]), bel.trans ((xaq b3 b4).mono bel.size)⟩
    | true =>
      go_wp2_with (first
       | (refine qab rfl rfl 247 4 rfl rfl (.tmp 8) rfl rfl _ alP qnq (fun _ => rfl) (fun _ => rfl) iP rfl (by kernel_rfl) ?_; intro w3 b3 B3; have c2 : w3.cell? ⟨wr.heap.size, 2, none⟩ = some (.func (.func 196) #[] #[]) := B3.cell 2; have B4 := hB.kb b3)
       | (refine ldS rfl (.tmp 1) rfl _ rfl s B4.lies ?_))
      refine (V.out _).mono ?_
      rintro e w4 ⟨rfl, b4⟩
      go_wp2_with fail
      go_roundg (8 - 5)
      case measure => omega
      case rel => exact ⟨5, 5, rfl, rfl, by omega, rfl, bel.trans ((xaq b3 b4).mono bel.size), B4.kb b4, xaa (HY.out HW.out)⟩
   ·obtain rfl : z = 5 := by omega
    clear hz hlt
    have ix : ∀ w, (Instr.index 248 (.agg qbd) (.int .i64 5)).run Tryz.prog w = .ok (.agg qnp) w := fun _ => by kernel_rfl
    have V := xaa (qx3 s)
    have HN := xaa (qe5 s 5 (by omega))
    have HY := xaa (qbn (p := fun i => vld1 i s = true) HV.out)
    obtain ⟨b, hb⟩ : ∃ b, vld1 5 s = b := ⟨_, rfl⟩
    have HW := xaa hb
    rw [hb] at V
    clear hb
    cases b with
    | false =>
      go_wp2_with (first
       | (refine qab rfl rfl 247 4 rfl rfl (.tmp 8) rfl rfl _ alP qnp (fun _ => rfl) (fun _ => rfl) iP rfl (by kernel_rfl) ?_; intro w3 b3 B3; have c2 : w3.cell? ⟨wr.heap.size, 2, none⟩ = some (.func (.func 199) #[] #[]) := B3.cell 2; have B4 := hB.kb b3)
       | (refine ldS rfl (.tmp 1) rfl _ rfl s B4.lies ?_))
      refine (V.out _).mono ?_
      rintro e w4 ⟨rfl, b4⟩
      go_wp2_with fail
      go_ret
      exact ⟨qb7 (by rw [<- HC.out, HN.out HW.out]), bel.trans ((xaq b3 b4).mono bel.size)⟩
    | true =>
      go_wp2_with (first
       | (refine qab rfl rfl 247 4 rfl rfl (.tmp 8) rfl rfl _ alP qnp (fun _ => rfl) (fun _ => rfl) iP rfl (by kernel_rfl) ?_; intro w3 b3 B3; have c2 : w3.cell? ⟨wr.heap.size, 2, none⟩ = some (.func (.func 199) #[] #[]) := B3.cell 2; have B4 := hB.kb b3)
       | (refine ldS rfl (.tmp 1) rfl _ rfl s B4.lies ?_))
      refine (V.out _).mono ?_
      rintro e w4 ⟨rfl, b4⟩
      go_wp2_with fail
      go_roundg (8 - 6)
      case measure => omega
      case rel => exact ⟨6, 6, rfl, rfl, by omega, rfl, bel.trans ((xaq b3 b4).mono bel.size), B4.kb b4, xaa (HY.out HW.out)⟩
   ·obtain rfl : z = 6 := by omega
    clear hz hlt
    have ix : ∀ w, (Instr.index 248 (.agg qbd) (.int .i64 6)).run Tryz.prog w = .ok (.agg qno) w := fun _ => by kernel_rfl
    have V := xaa (qx2 s)
    have HN := xaa (qe5 s 6 (by omega))
    have HY := xaa (qbn (p := fun i => vld1 i s = true) HV.out)
    obtain ⟨b, hb⟩ : ∃ b, vld1 6 s = b := ⟨_, rfl⟩
    have HW := xaa hb
    rw [hb] at V
    clear hb
    cases b with
    | false =>
      go_wp2_with (first
       | (refine qab rfl rfl 247 4 rfl rfl (.tmp 8) rfl rfl _ alP qno (fun _ => rfl) (fun _ => rfl) iP rfl (by kernel_rfl) ?_; intro w3 b3 B3; have c2 : w3.cell? ⟨wr.heap.size, 2, none⟩ = some (.func (.func 202) #[] #[]) := B3.cell 2; have B4 := hB.kb b3)
       | (refine ldS rfl (.tmp 1) rfl _ rfl s B4.lies ?_))
      refine (V.out _).mono ?_
      rintro e w4 ⟨rfl, b4⟩
      go_wp2_with fail
      go_ret
      exact ⟨qb7 (by rw [<- HC.out, HN.out HW.out]), bel.trans ((xaq b3 b4).mono bel.size)⟩
    | true =>
      go_wp2_with (first
       | (refine qab rfl rfl 247 4 rfl rfl (.tmp 8) rfl rfl _ alP qno (fun _ => rfl) (fun _ => rfl) iP rfl (by kernel_rfl) ?_; intro w3 b3 B3; have c2 : w3.cell? ⟨wr.heap.size, 2, none⟩ = some (.func (.func 202) #[] #[]) := B3.cell 2; have B4 := hB.kb b3)
       | (refine ldS rfl (.tmp 1) rfl _ rfl s B4.lies ?_))
      refine (V.out _).mono ?_
      rintro e w4 ⟨rfl, b4⟩
      go_wp2_with fail
      go_roundg (8 - 7)
      case measure => omega
      case rel => exact ⟨7, 7, rfl, rfl, by omega, rfl, bel.trans ((xaq b3 b4).mono bel.size), B4.kb b4, xaa (HY.out HW.out)⟩
   ·obtain rfl : z = 7 := by omega
    clear hz hlt
    have ix : ∀ w, (Instr.index 248 (.agg qbd) (.int .i64 7)).run Tryz.prog w = .ok (.agg qnn) w := fun _ => by kernel_rfl
    have V := xaa (qx1 s)
    have HN := xaa (qe5 s 7 (by omega))
    have HY := xaa (qbn (p := fun i => vld1 i s = true) HV.out)
    obtain ⟨b, hb⟩ : ∃ b, vld1 7 s = b := ⟨_, rfl⟩
    have HW := xaa hb
    rw [hb] at V
    clear hb
    cases b with
    | false =>
      go_wp2_with (first
       | (refine qab rfl rfl 247 4 rfl rfl (.tmp 8) rfl rfl _ alP qnn (fun _ => rfl) (fun _ => rfl) iP rfl (by kernel_rfl) ?_; intro w3 b3 B3; have c2 : w3.cell? ⟨wr.heap.size, 2, none⟩ = some (.func (.func 206) #[] #[]) := B3.cell 2; have B4 := hB.kb b3)
       | (refine ldS rfl (.tmp 1) rfl _ rfl s B4.lies ?_))
      refine (V.out _).mono ?_
      rintro e w4 ⟨rfl, b4⟩
      go_wp2_with fail
      go_ret
      exact ⟨qb7 (by rw [<- HC.out, HN.out HW.out]), bel.trans ((xaq b3 b4).mono bel.size)⟩
    | true =>
      go_wp2_with (first
       | (refine qab rfl rfl 247 4 rfl rfl (.tmp 8) rfl rfl _ alP qnn (fun _ => rfl) (fun _ => rfl) iP rfl (by kernel_rfl) ?_; intro w3 b3 B3; have c2 : w3.cell? ⟨wr.heap.size, 2, none⟩ = some (.func (.func 206) #[] #[]) := B3.cell 2; have B4 := hB.kb b3)
       | (refine ldS rfl (.tmp 1) rfl _ rfl s B4.lies ?_))
      refine (V.out _).mono ?_
      rintro e w4 ⟨rfl, b4⟩
      go_wp2_with fail
      go_roundg (8 - 8)
      case measure => omega
      case rel => exact ⟨8, 8, rfl, rfl, by omega, rfl, bel.trans ((xaq b3 b4).mono bel.size), B4.kb b4, xaa (HY.out HW.out)⟩
  ·obtain rfl : k = 8 := by omega
   obtain rfl : z = 8 := by omega
   have e := HC.out
   rw [q0p s HV.out] at e
   subst e
   clear hz hlt hk
   go_wp2_with fail
   go_ret
   exact ⟨rfl, bel⟩
end
section
theorem qlo (n k : Nat) (h : n.testBit k = true) : n &&& 2 ^ k = 2 ^ k := by
 apply Nat.eq_of_testBit_eq
 intro i
 rw [Nat.testBit_and, Nat.testBit_two_pow]
 by_cases e : k = i
 ·subst e; simp [h]
 ·simp [e]
theorem qo5 (n k : Nat) (h : n.testBit k = false) : n &&& 2 ^ k = 0 := by
 apply Nat.eq_of_testBit_eq
 intro i
 rw [Nat.testBit_and, Nat.testBit_two_pow]
 by_cases e : k = i
 ·subst e; simp [h]
 ·simp [e]
theorem qc7 (n k p : Nat) (hn : n < 65536) (h : n.testBit k = true) (hp : 2 ^ k = p) (hq : p < 65536) : bits .and .u16 (n : Int) (p : Int) = (p : Int) := by
 rw [u16_and_nat n p hn hq, <- hp, qlo n k h]
theorem qe8 (n k p : Nat) (hn : n < 65536) (h : n.testBit k = false) (hp : 2 ^ k = p) (hq : p < 65536) : bits .and .u16 (n : Int) (p : Int) = 0 := by
 rw [u16_and_nat n p hn hq, <- hp, qo5 n k h]
 rfl
theorem qjy (n : Nat) (hn : n < 65536) : n &&& 65280 = 0 ↔ n <= 255 := by
 have e : (n &&& 65280) >>> 8 = n / 256 := by
  rw [Nat.shiftRight_and_distrib, Nat.shiftRight_eq_div_pow, show (65280 : Nat) >>> 8 = 2 ^ 8 - 1 from rfl, Nat.and_two_pow_sub_one_eq_mod]
  omega
 constructor
 ·intro h
  rw [h] at e
  simp at e
  omega
 ·intro h
  apply Nat.eq_of_testBit_eq
  intro i
  rw [Nat.testBit_and, Nat.zero_testBit]
  by_cases hi : i < 8
  ·have h2 : (65280 : Nat).testBit i = false := by
    rw [show (65280 : Nat) = 255 <<< 8 from rfl, Nat.testBit_shiftLeft]
    have h8 : ¬ i ≥ 8 := by omega
    rw [decide_eq_false h8]
    rfl
   simp [h2]
  ·have h2 : n.testBit i = false := Nat.testBit_lt_two_pow (Nat.lt_of_lt_of_le (show n < 2 ^ 8 by omega) (Nat.pow_le_pow_right (by omega) (by omega)))
   simp [h2]
theorem qzl (n : Nat) (hn : n <= 255) : bits .andNot .u16 (n : Int) 255 = 0 := by
 have e := u16_andNot_nat n 255 (by omega) (by omega)
 rw [show 65535 - 255 = 65280 from rfl, (qjy n (by omega)).2 hn] at e
 exact e
theorem not_no (n : Nat) (hn : n < 65536) (h : ¬ n <= 255) : (bits .andNot .u16 (n : Int) 255 != 0) = true := by
 have e := u16_andNot_nat n 255 (by omega) (by omega)
 rw [show 65535 - 255 = 65280 from rfl] at e
 have e2 : bits .andNot .u16 (n : Int) 255 = ((n &&& 65280 : Nat) : Int) := e
 rw [e2]
 have h2 : ¬ n &&& 65280 = 0 := fun h3 => h ((qjy n hn).1 h3)
 simp
 omega
end
end Go.Proofs.YtmceblkjbpbcoaaGreatDoor
