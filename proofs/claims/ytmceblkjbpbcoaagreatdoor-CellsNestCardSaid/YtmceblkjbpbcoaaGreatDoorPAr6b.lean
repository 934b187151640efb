/- Contracts of layers below. -/
import Derived.Test.YtmceblkjbpbcoaaGreatDoorPBase
import Derived.Test.YtmceblkjbpbcoaaGreatDoorPAr5
import Derived.Test.YtmceblkjbpbcoaaGreatDoorPY5
namespace Go.Proofs.YtmceblkjbpbcoaaGreatDoor
set_option maxRecDepth 100000
set_option maxHeartbeats 8000000
open Go.ChangeShapes Go.WideShapes Go.ChangeAt Go.RowKit
namespace Ar
theorem vf_st (x : Nod) (item : Bool) (h : qbq x.st = false) : qas x item = false := by simp [qas, h]
theorem vf_en (x : Nod) (item : Bool) (h : qbq x.en = false) : qas x item = false := by simp [qas, h]
theorem vf_tp (x : Nod) (item : Bool) (h : qbq x.tp = false) : qas x item = false := by simp [qas, h]
theorem vf_bt (x : Nod) (item : Bool) (h : qbq x.bt = false) : qas x item = false := by simp [qas, h]
theorem vf_vn (x : Nod) (item : Bool) (h : qbq x.vn = false) : qas x item = false := by simp [qas, h]
theorem vf_gr (x : Nod) (item : Bool) (h : qgz x.gr = false) : qas x item = false := by simp [qas, h]
theorem vf_sh (x : Nod) (item : Bool) (h : qgz x.sh = false) : qas x item = false := by simp [qas, h]
theorem vf_all (x : Nod) (item : Bool) (h : qbq x.st = true /\ qbq x.en = true /\ qbq x.tp = true /\ qbq x.bt = true /\ qbq x.vn = true /\ qgz x.gr = true /\ qgz x.sh = true) : qas x item = (fitW x.wd && (decide (x.vk <= 9) && decide (x = alw x item))) := by
 obtain ⟨q0, q1, q2, q3, q4, q5, q6⟩ := h
 simp [qas, q0, q1, q2, q3, q4, q5, q6]
theorem q0x (x : Nod) (item : Bool) (w : World) (hTab : Tab w) (h0 : 0 <= x.k) (h8 : x.k <= 8) :
 Calls Tryz.prog 113 #[.agg x.cells, .bool item] w fun e w' => e = .returned (.bool (qas x item)) /\ Below w.heap.size w w' := by
 have hTp := hTab.pos
 have CA : Hid (∀ W, Below w.heap.size w W -> Calls Tryz.prog 138 #[.agg x.cells, .bool item] W fun e w' => e = .returned (.agg (alw x item).cells) /\ Below W.heap.size W w') := fun W hW => qpd x item W (hTab.below hTp hW) h0 h8
 have CW := xaa qln
 clear hTab h0 h8
 go_enter Tryz.func113, Tryz.ntmps113
 go_wp2_with (refine bxNV rfl (.tmp 0) rfl x rfl ?_; intro w1 b1 B1; have c15 : w1.cell? ⟨w.heap.size, 15, none⟩ = some (.int .i64 x.st) := B1.cell 15; have c16 : w1.cell? ⟨w.heap.size, 16, none⟩ = some (.int .i64 x.en) := B1.cell 16; have c17 : w1.cell? ⟨w.heap.size, 17, none⟩ = some (.int .i64 x.tp) := B1.cell 17; have c18 : w1.cell? ⟨w.heap.size, 18, none⟩ = some (.int .i64 x.bt) := B1.cell 18; have c14 : w1.cell? ⟨w.heap.size, 14, none⟩ = some (.int .i64 x.vn) := B1.cell 14;)
 clear c15 c16 c17 c18 c14
 have ix0 : ∀ W : World, (Instr.index 217 (.agg #[.int .i64 x.st, .int .i64 x.en, .int .i64 x.tp, .int .i64 x.bt, .int .i64 x.vn]) (.int .i64 0)).run Tryz.prog W = .ok (.int .i64 x.st) W := fun _ => by kernel_rfl
 have ix1 : ∀ W : World, (Instr.index 217 (.agg #[.int .i64 x.st, .int .i64 x.en, .int .i64 x.tp, .int .i64 x.bt, .int .i64 x.vn]) (.int .i64 1)).run Tryz.prog W = .ok (.int .i64 x.en) W := fun _ => by kernel_rfl
 have ix2 : ∀ W : World, (Instr.index 217 (.agg #[.int .i64 x.st, .int .i64 x.en, .int .i64 x.tp, .int .i64 x.bt, .int .i64 x.vn]) (.int .i64 2)).run Tryz.prog W = .ok (.int .i64 x.tp) W := fun _ => by kernel_rfl
 have ix3 : ∀ W : World, (Instr.index 217 (.agg #[.int .i64 x.st, .int .i64 x.en, .int .i64 x.tp, .int .i64 x.bt, .int .i64 x.vn]) (.int .i64 3)).run Tryz.prog W = .ok (.int .i64 x.bt) W := fun _ => by kernel_rfl
 have ix4 : ∀ W : World, (Instr.index 217 (.agg #[.int .i64 x.st, .int .i64 x.en, .int .i64 x.tp, .int .i64 x.bt, .int .i64 x.vn]) (.int .i64 4)).run Tryz.prog W = .ok (.int .i64 x.vn) W := fun _ => by kernel_rfl
 go_loopg [21] 5 (fun kx s21 wr => w1 = wr /\ ∃ k : Nat, s21 = .int .i64 k /\ k <= 5 /\ kx = 5 - k /\ Hid ((0 < k -> qbq x.st = true) /\ (1 < k -> qbq x.en = true) /\ (2 < k -> qbq x.tp = true) /\ (3 < k -> qbq x.bt = true) /\ (4 < k -> qbq x.vn = true)))
 case atStart => exact ⟨rfl, 0, rfl, by omega, rfl, xaa ⟨fun h => (by omega), fun h => (by omega), fun h => (by omega), fun h => (by omega), fun h => (by omega)⟩⟩
 case round =>
  obtain ⟨rfl, k, rfl, hk, rfl, HK⟩ := hrel
  have : k = 0 \/ k = 1 \/ k = 2 \/ k = 3 \/ k = 4 \/ k = 5 := by omega
  rcases this with rfl | rfl | rfl | rfl | rfl | rfl
  ·have C := xaa (fun W => CW.out x.st (-1073741824) 1073741824 W)
   cases hb : qbq x.st
   ·have hb2 : (decide (-1073741824 <= x.st) && decide (x.st <= 1073741824)) = false := hb
    rw [hb2] at C
    have RES := xaa (vf_st x item hb)
    clear hb hb2
    go_wp2_with fail
    refine (C.out _).mono ?_
    rintro e w2 ⟨rfl, rfl⟩
    go_wp2_with fail
    go_ret
    exact ⟨qak RES.out.symm, b1⟩
   ·have hb2 : (decide (-1073741824 <= x.st) && decide (x.st <= 1073741824)) = true := hb
    rw [hb2] at C
    have HB := xaa hb
    clear hb hb2
    go_wp2_with fail
    refine (C.out _).mono ?_
    rintro e w2 ⟨rfl, rfl⟩
    go_wp2_with fail
    go_roundg 4
    case measure => omega
    case rel => exact ⟨rfl, 1, rfl, by omega, rfl, xaa ⟨fun _ => HB.out, fun h => (by omega), fun h => (by omega), fun h => (by omega), fun h => (by omega)⟩⟩
  ·have C := xaa (fun W => CW.out x.en (-1073741824) 1073741824 W)
   cases hb : qbq x.en
   ·have hb2 : (decide (-1073741824 <= x.en) && decide (x.en <= 1073741824)) = false := hb
    rw [hb2] at C
    have RES := xaa (vf_en x item hb)
    clear hb hb2
    go_wp2_with fail
    refine (C.out _).mono ?_
    rintro e w2 ⟨rfl, rfl⟩
    go_wp2_with fail
    go_ret
    exact ⟨qak RES.out.symm, b1⟩
   ·have hb2 : (decide (-1073741824 <= x.en) && decide (x.en <= 1073741824)) = true := hb
    rw [hb2] at C
    have HB := xaa hb
    clear hb hb2
    go_wp2_with fail
    refine (C.out _).mono ?_
    rintro e w2 ⟨rfl, rfl⟩
    go_wp2_with fail
    go_roundg 3
    case measure => omega
    case rel => exact ⟨rfl, 2, rfl, by omega, rfl, xaa ⟨fun _ => HK.out.1 (by omega), fun _ => HB.out, fun h => (by omega), fun h => (by omega), fun h => (by omega)⟩⟩
  ·have C := xaa (fun W => CW.out x.tp (-1073741824) 1073741824 W)
   cases hb : qbq x.tp
   ·have hb2 : (decide (-1073741824 <= x.tp) && decide (x.tp <= 1073741824)) = false := hb
    rw [hb2] at C
    have RES := xaa (vf_tp x item hb)
    clear hb hb2
    go_wp2_with fail
    refine (C.out _).mono ?_
    rintro e w2 ⟨rfl, rfl⟩
    go_wp2_with fail
    go_ret
    exact ⟨qak RES.out.symm, b1⟩
   ·have hb2 : (decide (-1073741824 <= x.tp) && decide (x.tp <= 1073741824)) = true := hb
    rw [hb2] at C
    have HB := xaa hb
    clear hb hb2
    go_wp2_with fail
    refine (C.out _).mono ?_
    rintro e w2 ⟨rfl, rfl⟩
    go_wp2_with fail
    go_roundg 2
    case measure => omega
    case rel => exact ⟨rfl, 3, rfl, by omega, rfl, xaa ⟨fun _ => HK.out.1 (by omega), fun _ => HK.out.2.1 (by omega), fun _ => HB.out, fun h => (by omega), fun h => (by omega)⟩⟩
  ·have C := xaa (fun W => CW.out x.bt (-1073741824) 1073741824 W)
   cases hb : qbq x.bt
   ·have hb2 : (decide (-1073741824 <= x.bt) && decide (x.bt <= 1073741824)) = false := hb
    rw [hb2] at C
    have RES := xaa (vf_bt x item hb)
    clear hb hb2
    go_wp2_with fail
    refine (C.out _).mono ?_
    rintro e w2 ⟨rfl, rfl⟩
    go_wp2_with fail
    go_ret
    exact ⟨qak RES.out.symm, b1⟩
   ·have hb2 : (decide (-1073741824 <= x.bt) && decide (x.bt <= 1073741824)) = true := hb
    rw [hb2] at C
    have HB := xaa hb
    clear hb hb2
    go_wp2_with fail
    refine (C.out _).mono ?_
    rintro e w2 ⟨rfl, rfl⟩
    go_wp2_with fail
    go_roundg 1
    case measure => omega
    case rel => exact ⟨rfl, 4, rfl, by omega, rfl, xaa ⟨fun _ => HK.out.1 (by omega), fun _ => HK.out.2.1 (by omega), fun _ => HK.out.2.2.1 (by omega), fun _ => HB.out, fun h => (by omega)⟩⟩
  ·have C := xaa (fun W => CW.out x.vn (-1073741824) 1073741824 W)
   cases hb : qbq x.vn
   ·have hb2 : (decide (-1073741824 <= x.vn) && decide (x.vn <= 1073741824)) = false := hb
    rw [hb2] at C
    have RES := xaa (vf_vn x item hb)
    clear hb hb2
    go_wp2_with fail
    refine (C.out _).mono ?_
    rintro e w2 ⟨rfl, rfl⟩
    go_wp2_with fail
    go_ret
    exact ⟨qak RES.out.symm, b1⟩
   ·have hb2 : (decide (-1073741824 <= x.vn) && decide (x.vn <= 1073741824)) = true := hb
    rw [hb2] at C
    have HB := xaa hb
    clear hb hb2
    go_wp2_with fail
    refine (C.out _).mono ?_
    rintro e w2 ⟨rfl, rfl⟩
    go_wp2_with fail
    go_roundg 0
    case measure => omega
    case rel => exact ⟨rfl, 5, rfl, by omega, rfl, xaa ⟨fun _ => HK.out.1 (by omega), fun _ => HK.out.2.1 (by omega), fun _ => HK.out.2.2.1 (by omega), fun _ => HK.out.2.2.2.1 (by omega), fun _ => HB.out⟩⟩
  ·have c20 : w1.cell? ⟨w.heap.size, 20, none⟩ = some (.int .i64 x.gr) := B1.cell 20
   have c21 : w1.cell? ⟨w.heap.size, 21, none⟩ = some (.int .i64 x.sh) := B1.cell 21
   clear ix0 ix1 ix2 ix3 ix4
   have ix0 : ∀ W : World, (Instr.index 219 (.agg #[.int .i64 x.gr, .int .i64 x.sh]) (.int .i64 0)).run Tryz.prog W = .ok (.int .i64 x.gr) W := fun _ => by kernel_rfl
   have ix1 : ∀ W : World, (Instr.index 219 (.agg #[.int .i64 x.gr, .int .i64 x.sh]) (.int .i64 1)).run Tryz.prog W = .ok (.int .i64 x.sh) W := fun _ => by kernel_rfl
   go_wp2_with fail
   go_loopg [33] 2 (fun kx s33 wr => w1 = wr /\ ∃ k : Nat, s33 = .int .i64 k /\ k <= 2 /\ kx = 2 - k /\ Hid ((0 < k -> qgz x.gr = true) /\ (1 < k -> qgz x.sh = true)))
   case atStart => exact ⟨rfl, 0, rfl, by omega, rfl, xaa ⟨fun h => (by omega), fun h => (by omega)⟩⟩
   case round =>
    obtain ⟨rfl, k, rfl, hk, rfl, HJ⟩ := hrel
    clear c20 c21
    have : k = 0 \/ k = 1 \/ k = 2 := by omega
    rcases this with rfl | rfl | rfl
    ·have C := xaa (fun W => CW.out x.gr 0 1000 W)
     cases hb : qgz x.gr
     ·have hb2 : (decide (0 <= x.gr) && decide (x.gr <= 1000)) = false := hb
      rw [hb2] at C
      have RES := xaa (vf_gr x item hb)
      clear hb hb2
      go_wp2_with fail
      refine (C.out _).mono ?_
      rintro e w2 ⟨rfl, rfl⟩
      go_wp2_with fail
      go_ret
      exact ⟨qak RES.out.symm, b1⟩
     ·have hb2 : (decide (0 <= x.gr) && decide (x.gr <= 1000)) = true := hb
      rw [hb2] at C
      have HB := xaa hb
      clear hb hb2
      go_wp2_with fail
      refine (C.out _).mono ?_
      rintro e w2 ⟨rfl, rfl⟩
      go_wp2_with fail
      go_roundg 1
      case measure => omega
      case rel => exact ⟨rfl, 1, rfl, by omega, rfl, xaa ⟨fun _ => HB.out, fun h => (by omega)⟩⟩
    ·have C := xaa (fun W => CW.out x.sh 0 1000 W)
     cases hb : qgz x.sh
     ·have hb2 : (decide (0 <= x.sh) && decide (x.sh <= 1000)) = false := hb
      rw [hb2] at C
      have RES := xaa (vf_sh x item hb)
      clear hb hb2
      go_wp2_with fail
      refine (C.out _).mono ?_
      rintro e w2 ⟨rfl, rfl⟩
      go_wp2_with fail
      go_ret
      exact ⟨qak RES.out.symm, b1⟩
     ·have hb2 : (decide (0 <= x.sh) && decide (x.sh <= 1000)) = true := hb
      rw [hb2] at C
      have HB := xaa hb
      clear hb hb2
      go_wp2_with fail
      refine (C.out _).mono ?_
      rintro e w2 ⟨rfl, rfl⟩
      go_wp2_with fail
      go_roundg 0
      case measure => omega
      case rel => exact ⟨rfl, 2, rfl, by omega, rfl, xaa ⟨fun _ => HJ.out.1 (by omega), fun _ => HB.out⟩⟩
    ·have RES := xaa (vf_all x item ⟨HK.out.1 (by omega), HK.out.2.1 (by omega), HK.out.2.2.1 (by omega), HK.out.2.2.2.1 (by omega), HK.out.2.2.2.2 (by omega), HJ.out.1 (by omega), HJ.out.2 (by omega)⟩)
     have HB := xaa B1
     have C := xaa (fun W => CW.out x.wd (-1) 1073741824 W)
     clear ix0 ix1 HK HJ B1
     cases hfw : fitW x.wd
     ·have hfw2 : (decide (-1 <= x.wd) && decide (x.wd <= 1073741824)) = false := hfw
      rw [hfw2] at C
      rw [hfw] at RES
      clear hfw hfw2
      go_wp2_with fail
      refine qax (by kernel_rfl) (fun W => Below w1.heap.size w1 W) (below_drewN (xas) 1) (fun R hR => ?_)
      refine AllS.t_ (i := 0) ?_
      refine AllS.take (i := 1) (v := ?_) (by rw [xab]; rfl) (by kernel_rfl) (by kernel_rfl) (by kernel_rfl) (qaf.read (by rfl) ?_) ?_
      rotate_left
      ·intro W hSw
       (try dsimp only at hSw)
       have c19 : W.cell? ⟨w.heap.size, 19, none⟩ = some (.int .i64 x.wd) := (HB.out.kb hSw).cell 19
       go_simp
       (try with_reducible rfl)
      rotate_left
      (try simp only [Act.put, xaf, xaj, xak])
      refine AllS.c_ (i := 2) (.bool false) 137 #[.int .i64 x.wd, .int .i64 (-1), .int .i64 1073741824] (fun W hSw => ?_) ?_
      ·exact (C.out W).mono (fun e w2 h => ⟨h.1, h.2 ▸ hSw⟩)
      refine AllS.t_ (i := 3) ?_
      refine AllS.u_ (i := 4) ?_
      refine AllS.u_ (i := 5) ?_
      refine AllS.u_ (i := 6) ?_
      refine AllS.u_ (i := 7) ?_
      refine AllS.t_ (i := 8) ?_
      refine AllS.t_ (i := 9) ?_
      refine AllS.u_ (i := 10) ?_
      refine AllS.u_ (i := 11) ?_
      refine AllS.u_ (i := 12) ?_
      refine AllS.u_ (i := 13) ?_
      refine AllS.u_ (i := 14) ?_
      refine AllS.t_ (i := 15) ?_
      refine AllS.t_ (i := 16) ?_
      refine AllS.done (by kernel_rfl) (hR.out _ ?_) _
      clear hR R
      intro w2 b2
      go_wp2_with fail
      go_ret
      exact ⟨qak RES.out.symm, b1.trans (b2.mono b1.size)⟩
     ·have hfw2 : (decide (-1 <= x.wd) && decide (x.wd <= 1073741824)) = true := hfw
      rw [hfw2] at C
      rw [hfw, Bool.true_and] at RES
      clear hfw hfw2
      by_cases hv : x.vk <= 9
      ·rw [decide_eq_true hv, Bool.true_and] at RES
       obtain ⟨be, hbe⟩ : ∃ b, decide (x = alw x item) = b := ⟨_, rfl⟩
       have HNE := xaa (fun W => eqN x (alw x item) W be hbe)
       rw [hbe] at RES
       clear hbe
       go_wp2_with fail
       refine qax (by kernel_rfl) (fun W => Below w1.heap.size w1 W) (below_drewN (xas) 1) (fun R hR => ?_)
       refine AllS.t_ (i := 0) ?_
       refine AllS.take (i := 1) (v := ?_) (by rw [xab]; rfl) (by kernel_rfl) (by kernel_rfl) (by kernel_rfl) (qaf.read (by rfl) ?_) ?_
       rotate_left
       ·intro W hSw
        (try dsimp only at hSw)
        have c19 : W.cell? ⟨w.heap.size, 19, none⟩ = some (.int .i64 x.wd) := (HB.out.kb hSw).cell 19
        go_simp
        (try with_reducible rfl)
       rotate_left
       (try simp only [Act.put, xaf, xaj, xak])
       refine AllS.c_ (i := 2) (.bool true) 137 #[.int .i64 x.wd, .int .i64 (-1), .int .i64 1073741824] (fun W hSw => ?_) ?_
       ·exact (C.out W).mono (fun e w2 h => ⟨h.1, h.2 ▸ hSw⟩)
       refine AllS.t_ (i := 3) ?_
       refine AllS.t_ (i := 4) ?_
       refine AllS.t_ (i := 5) ?_
       refine AllS.take (i := 6) (v := ?_) (by rw [xab]; rfl) (by kernel_rfl) (by kernel_rfl) (by kernel_rfl) (qaf.read (by rfl) ?_) ?_
       rotate_left
       ·intro W hSw
        (try dsimp only at hSw)
        have c13 : W.cell? ⟨w.heap.size, 13, none⟩ = some (.int .u8 x.vk) := (HB.out.kb hSw).cell 13
        go_simp
        (try with_reducible rfl)
       rotate_left
       (try simp only [Act.put, xaf, xaj, xak])
       refine AllS.r_ (i := 7) (.bool true) (fun W hSw => ?_) ?_
       ·(try dsimp only at hSw)
        go_simp
       refine AllS.t_ (i := 8) ?_
       refine AllS.t_ (i := 9) ?_
       refine AllS.r_ (i := 10) (.agg x.cells) (fun W hSw => ?_) ?_
       ·(try dsimp only at hSw)
        exact rdN (.tmp 2) rfl _ rfl x (HB.out.kb hSw).lies
       refine AllS.r_ (i := 11) (.agg x.cells) (fun W hSw => ?_) ?_
       ·(try dsimp only at hSw)
        exact rdN (.tmp 2) rfl _ rfl x (HB.out.kb hSw).lies
       refine AllS.t_ (i := 12) ?_
       refine AllS.c_ (i := 13) (.agg (alw x item).cells) 138 #[.agg x.cells, .bool item] (fun W hSw => ?_) ?_
       ·exact (CA.out W (b1.trans (hSw.mono b1.size))).mono (fun e w2 h => ⟨h.1, xaq hSw h.2⟩)
       refine AllS.r_ (i := 14) (.bool be) (fun W hSw => ?_) ?_
       ·(try dsimp only at hSw)
        have hne := HNE.out; go_simp
       refine AllS.t_ (i := 15) ?_
       refine AllS.t_ (i := 16) ?_
       refine AllS.done (by kernel_rfl) (hR.out _ ?_) _
       clear hR R
       intro w2 b2
       go_wp2_with fail
       go_ret
       exact ⟨qak RES.out.symm, b1.trans (b2.mono b1.size)⟩
      ·have hv2 : ¬ x.vk <= 9 := hv
       have hv3 : 9 < x.vk := by omega
       rw [decide_eq_false hv, Bool.false_and] at RES
       clear hv
       go_wp2_with fail
       refine qax (by kernel_rfl) (fun W => Below w1.heap.size w1 W) (below_drewN (xas) 1) (fun R hR => ?_)
       refine AllS.t_ (i := 0) ?_
       refine AllS.take (i := 1) (v := ?_) (by rw [xab]; rfl) (by kernel_rfl) (by kernel_rfl) (by kernel_rfl) (qaf.read (by rfl) ?_) ?_
       rotate_left
       ·intro W hSw
        (try dsimp only at hSw)
        have c19 : W.cell? ⟨w.heap.size, 19, none⟩ = some (.int .i64 x.wd) := (HB.out.kb hSw).cell 19
        go_simp
        (try with_reducible rfl)
       rotate_left
       (try simp only [Act.put, xaf, xaj, xak])
       refine AllS.c_ (i := 2) (.bool true) 137 #[.int .i64 x.wd, .int .i64 (-1), .int .i64 1073741824] (fun W hSw => ?_) ?_
       ·exact (C.out W).mono (fun e w2 h => ⟨h.1, h.2 ▸ hSw⟩)
       refine AllS.t_ (i := 3) ?_
       refine AllS.t_ (i := 4) ?_
       refine AllS.t_ (i := 5) ?_
       refine AllS.take (i := 6) (v := ?_) (by rw [xab]; rfl) (by kernel_rfl) (by kernel_rfl) (by kernel_rfl) (qaf.read (by rfl) ?_) ?_
       rotate_left
       ·intro W hSw
        (try dsimp only at hSw)
        have c13 : W.cell? ⟨w.heap.size, 13, none⟩ = some (.int .u8 x.vk) := (HB.out.kb hSw).cell 13
        go_simp
        (try with_reducible rfl)
       rotate_left
       (try simp only [Act.put, xaf, xaj, xak])
       refine AllS.r_ (i := 7) (.bool false) (fun W hSw => ?_) ?_
       ·(try dsimp only at hSw)
        go_simp
       refine AllS.t_ (i := 8) ?_
       refine AllS.t_ (i := 9) ?_
       refine AllS.u_ (i := 10) ?_
       refine AllS.u_ (i := 11) ?_
       refine AllS.u_ (i := 12) ?_
       refine AllS.u_ (i := 13) ?_
       refine AllS.u_ (i := 14) ?_
       refine AllS.t_ (i := 15) ?_
       refine AllS.t_ (i := 16) ?_
       refine AllS.done (by kernel_rfl) (hR.out _ ?_) _
       clear hR R
       intro w2 b2
       go_wp2_with fail
       go_ret
       exact ⟨qak RES.out.symm, b1.trans (b2.mono b1.size)⟩
end Ar
namespace Ar
theorem qh6 {l : List Nod} {k : Nat} {x : Nod} (h : l[k]? = some x) : l.take (k + 1) = l.take k ++ [x] := by
 rw [List.take_add_one, h]
 rfl
theorem qdm (l m : List Nod) : sumT (l ++ m) = sumT l + sumT m := by simp [sumT]
theorem qh7 {l : List Nod} {k : Nat} {x : Nod} (h : l[k]? = some x) : sumT (l.take (k + 1)) = sumT (l.take k) + x.t.size := by
 rw [qh6 h, qdm]
 simp [sumT]
theorem qkt (l : List Nod) (k : Nat) : sumT (l.take k) <= sumT l := by
 have h := qdm (l.take k) (l.drop k)
 rw [List.take_append_drop] at h
 omega
theorem qs3 (l : List Nod) (v : Value) (w : World) (hR : Ns w v l) (hW : WfL l) (hlen : l.length <= 1048576) :
 Calls Tryz.prog 60 #[v] w fun e w' => e = .returned (.int .i64 (qcw l)) /\ Below w.heap.size w w' := by
 have HR := xaa hR
 have HW := xaa hW
 obtain ⟨A, cap, rfl⟩ := hR.form
 obtain ⟨n, hl⟩ : ∃ n, l.length = n := ⟨_, rfl⟩
 have HL := xaa hl
 rw [hl] at hlen HR |-
 clear hR hW hl
 go_enter Tryz.func60, Tryz.ntmps60
 go_wp2_with fail
 go_loopg [3, 8] n (fun kx s3 s8 wr => ∃ (k s : Nat), s3 = .int .i64 (1048576 - (s : Int)) /\ s8 = .int .i64 k /\ k <= n /\ s <= 1048576 /\ kx = n - k /\ Hid (sumT (l.take k) = s) /\ Below w.heap.size w wr)
 case atStart => exact ⟨0, 0, rfl, rfl, by omega, by omega, rfl, xaa rfl, xas⟩
 case round =>
  obtain ⟨k, s, rfl, rfl, hk, hs, rfl, HS, bel⟩ := hrel
  by_cases hlt : k < n
  ·have hkl : k < l.length := by rw [HL.out]; exact hlt
   have hz : (k : Int) < n := by omega
   obtain ⟨x, hx⟩ := qex hkl
   obtain ⟨ad, cap2, o, hv, _, ha, hLi⟩ := HR.out.get bel hx
   injection hv with hv1 hv2 hv3
   subst hv1 hv3
   have hts := (HW.out k x hx).t
   have h1 := qh7 hx
   rw [HS.out] at h1
   obtain ⟨q, hq⟩ : ∃ q, x.t.size = q := ⟨_, rfl⟩
   have HQ := xaa hq
   rw [hq] at hts h1
   have hrs := bel.size
   clear hv2 hx hkl hq
   by_cases hbig : s + q <= 1048576
   ·have HS' : Hid (sumT (l.take (k + 1)) = s + q) := h1
    have hpos : ¬ 1048576 - (s : Int) - q < 0 := by omega
    clear h1 HS
    go_wp2_with (first
     | (refine ldN rfl (.tmp 10) rfl _ rfl x (ha ▸ hLi) ?_)
     | (refine nwN rfl rfl 5 rfl rfl (.tmp 11) rfl rfl x (fun _ => rfl) (fun _ => rfl) ?_; intro w5 b5 B5; have c2 : w5.cell? ⟨wr.heap.size, 2, none⟩ = some (.string x.t) := B5.cell 2; have hqq := HQ.out))
    go_roundg (n - (k + 1))
    case measure => omega
    case rel => exact ⟨k + 1, s + q, by go_num, by go_num, by omega, hbig, rfl, HS', bel.trans (b5.mono hrs)⟩
   ·have RES : Hid (qcw l = 3) := by
     show _ = _
     unfold qcw
     have := qkt l (k + 1)
     rw [if_pos (by omega)]
    have hneg : 1048576 - (s : Int) - q < 0 := by omega
    clear h1 HS
    go_wp2_with (first
     | (refine ldN rfl (.tmp 10) rfl _ rfl x (ha ▸ hLi) ?_)
     | (refine nwN rfl rfl 5 rfl rfl (.tmp 11) rfl rfl x (fun _ => rfl) (fun _ => rfl) ?_; intro w5 b5 B5; have c2 : w5.cell? ⟨wr.heap.size, 2, none⟩ = some (.string x.t) := B5.cell 2; have hqq := HQ.out))
    go_ret
    exact ⟨qb7 RES.out.symm, bel.trans (b5.mono hrs)⟩
  ·obtain rfl : k = n := by omega
   have RES : Hid (qcw l = 0) := by
    show _ = _
    unfold qcw
    have h1 := HS.out
    rw [List.take_of_length_le (by rw [HL.out]; omega)] at h1
    rw [if_neg (by omega)]
   clear HS
   go_wp2_with fail
   go_ret
   exact ⟨qb7 RES.out.symm, bel⟩
end Ar
namespace Ar
theorem qvv {pre : List Nod} {last tgt : Int} (h : PreOk pre last) (h0 : 0 < pre.length) (hd : 0 <= depA (psOf pre) tgt last) : 0 <= tgt /\ tgt < pre.length := by
 rcases h.tree with ⟨h1, _⟩ | ⟨h1, _⟩
 ·omega
 ·by_cases h6 : 0 <= tgt /\ Abv (psOf pre) tgt.toNat ((psOf pre).length - 1)
  ·have := h6.2.le h1
   rw [qad] at this
   omega
  ·rw [qmw h1 (fun h7 h8 => h6 ⟨h7, h8⟩)] at hd
   omega
theorem qk7 {l : List Nod} {n : Nat} {p : Int} (h0 : 0 <= p) (h : p < n) : qav (l.take n) p = qav l p := by
 unfold qav
 rw [xal, xal, List.getElem?_take_of_lt (by omega)]
theorem q00 (l : List Nod) (v : Value) (n : Nat) (x : Nod) (last : Int) (w : World) (hR : Ns w v l) (hW : WfL l) (hlen : l.length <= 1048576) (hx : l[n]? = some x) (hP : PreOk (l.take n) last) (hTab : Tab w) :
 Calls Tryz.prog 59 #[v, .int .i64 (n : Int), .int .i64 last] w fun e w' => e = .returned (.tuple #[.int .i64 (nodeErr (l.take n) x last).2, .int .i64 (nodeErr (l.take n) x last).1]) /\ Below w.heap.size w w' := by
 have hn : n < l.length := (xah hx).1
 have hlt : (l.take n).length = n := by rw [List.length_take]; omega
 have C1 := xaa (qs2 l v n x last w hR hlen hx hP)
 have hwx := hW n x hx
 have hTp := hTab.pos
 obtain ⟨dA, hdA⟩ : ∃ d, depA (psOf (l.take n)) x.p last = d := ⟨_, rfl⟩
 have hne : nodeErr (l.take n) x last = if dA < 0 \/ qdk (decide (n = 0)) x.k (qav (l.take n) x.p) = false then (70, 0) else if 64 < dA then (71, 0) else if qpf x.d = false then (60, 0) else if qas x (decide (0 < n) && qav (l.take n) x.p == 5) = false then (2, 0) else (0, dA) := by
  unfold nodeErr
  rw [hdA, hlt]
 by_cases hd0 : dA < 0
 ·have hne2 : nodeErr (l.take n) x last = (70, 0) := by rw [hne, if_pos (.inl hd0)]
  rw [hne2]
  rw [hdA] at C1
  clear hne hne2 hdA hP hR hW hx
  go_enter Tryz.func59, Tryz.ntmps59
  go_wp2_with fail
  refine C1.out.mono ?_
  rintro e w2 ⟨rfl, rfl⟩
  go_wp2_with fail
  go_ret2
  exact ⟨rfl, xas⟩
 ·have hpp : 0 < n -> 0 <= x.p /\ x.p < n := fun h0 => by
   have := qvv hP (by omega) (by omega : 0 <= depA (psOf (l.take n)) x.p last)
   rwa [hlt] at this
  have hkk : 0 < n -> qav (l.take n) x.p = qav l x.p := fun h0 => by
   obtain ⟨q1, q2⟩ := hpp h0
   exact qk7 q1 q2
  have hkr : 0 < n -> 0 <= qav l x.p /\ qav l x.p <= 8 := fun h0 => by
   obtain ⟨q1, q2⟩ := hpp h0
   obtain ⟨y, hy⟩ := qex (l := l) (i := x.p.toNat) (by omega)
   have e1 : qav l x.p = y.k := by unfold qav; rw [xal, hy]; rfl
   have h2 := (hP.all x.p.toNat y (by rw [List.getElem?_take_of_lt (by omega)]; exact hy)).kind
   have h3 := (hW _ y hy).k0
   omega
  have C2 := xaa (qo3 l v n x w hR hx hwx.k0 hTab hpp hkr)
  have hvk : qdk (decide (n = 0)) x.k (qav (l.take n) x.p) = qdk (decide (n = 0)) x.k (qav l x.p) := by
   rcases Nat.eq_zero_or_pos n with h0 | h0
   ·subst h0; rfl
   ·rw [hkk h0]
  have hit : (decide (0 < n) && qav (l.take n) x.p == 5) = (decide (0 < n) && qav l x.p == 5) := by
   rcases Nat.eq_zero_or_pos n with h0 | h0
   ·subst h0; rfl
   ·rw [hkk h0]
  rw [hvk, hit] at hne
  rw [hdA] at C1
  cases hvv : qdk (decide (n = 0)) x.k (qav l x.p)
  ·have hne2 : nodeErr (l.take n) x last = (70, 0) := by rw [hne, if_pos (.inr hvv)]
   rw [hne2]
   rw [hvv] at C2
   clear hne hne2 hdA hP hR hW hx hvk hit hvv hpp hkk hkr
   go_enter Tryz.func59, Tryz.ntmps59
   go_wp2_with fail
   refine C1.out.mono ?_
   rintro e w2 ⟨rfl, rfl⟩
   go_wp2_with fail
   refine C2.out.mono ?_
   rintro e w2 ⟨rfl, rfl⟩
   go_wp2_with fail
   go_ret2
   exact ⟨rfl, xas⟩
  ·rw [hvv] at C2
   rw [if_neg (by rw [hvv]; simp; omega)] at hne
   by_cases h64 : 64 < dA
   ·rw [if_pos h64] at hne
    rw [hne]
    clear hne hdA hP hR hW hx hvk hit hvv hpp hkk hkr
    go_enter Tryz.func59, Tryz.ntmps59
    go_wp2_with fail
    refine C1.out.mono ?_
    rintro e w2 ⟨rfl, rfl⟩
    go_wp2_with fail
    refine C2.out.mono ?_
    rintro e w2 ⟨rfl, rfl⟩
    go_wp2_with fail
    go_ret2
    exact ⟨rfl, xas⟩
   ·rw [if_neg h64] at hne
    have hk8 : x.k <= 8 := (qrm hvv).1
    have CD := xaa (fun W => qpl x.d W hwx.d)
    have CF : Hid (∀ (b : Bool) (W : World), Below w.heap.size w W -> Calls Tryz.prog 113 #[.agg x.cells, .bool b] W fun e w' => e = .returned (.bool (qas x b)) /\ Below W.heap.size W w') := fun b W hW => q0x x b W (hTab.below hTp hW) hwx.k0 hk8
    obtain ⟨ad, cap, o, hv, hab, ha, hLi⟩ := hR.get (xas) hx
    have HRR := xaa hR
    have HLI := xaa hLi
    have HX := xaa hx
    obtain ⟨m, hm⟩ : ∃ m, l.length = m := ⟨_, rfl⟩
    have HM := xaa hm
    rw [hm] at hv hn
    subst hv
    have hnz : (n : Int) < m := by omega
    clear hdA hP hR hW hvk hit hvv hkk hwx hTab hLi hm hx
    rcases qot x.d with ⟨hv, hc⟩ | ⟨hv, hc⟩
    ·rw [if_neg (by rw [hv]; simp)] at hne
     rw [hc] at CD
     clear hv hc
     by_cases hn0 : n = 0
     ·have hit2 : (decide (0 < n) && qav l x.p == 5) = false := by subst hn0; rfl
      rw [hit2] at hne
      clear hit2 hpp hkr
      have CF2 := xaa (CF.out false)
      clear CF
      have hng : ¬ 0 < (n : Int) := by omega
      have HN0 := xaa hn0
      clear hn0
      cases hvf : qas x false
      ·rw [hvf, if_pos rfl] at hne
       rw [hvf] at CF2
       rw [hne]
       clear hne hvf
       have hLd := HLI.out.d
       go_enter Tryz.func59, Tryz.ntmps59
       go_wp2_with fail
       refine C1.out.mono ?_
       rintro e w2 ⟨rfl, rfl⟩
       go_wp2_with fail
       refine C2.out.mono ?_
       rintro e w2 ⟨rfl, rfl⟩
       go_wp2_with (refine ldD rfl (.tmp 26) rfl _ rfl x.d hLd ?_)
       refine (CD.out _).mono ?_
       rintro e w2 ⟨rfl, b2⟩
       clear hLd C1 C2 CD
       go_wp2_with fail
       refine qax (by kernel_rfl) (fun W => Below w2.heap.size w2 W) (below_drewN (xas) 1) (fun R hR => ?_)
       refine AllS.start ?_
       iterate 3 refine AllS.t ?_
       refine AllS.r (.agg x.cells) (fun W hSw => ?_) ?_
       ·(try dsimp only at hSw)
        exact rdN (.tmp 32) rfl _ rfl x (ha ▸ HLI.out.below (xaq b2 hSw))
       refine AllS.t ?_
       refine AllS.r (.bool false) (fun W hSw => ?_) ?_
       ·(try dsimp only at hSw)
        go_simp; exact HN0.out
       refine AllS.t ?_
       iterate 10 refine AllS.u ?_
       refine AllS.t ?_
       refine AllS.c (.bool false) 113 #[.agg x.cells, .bool false] (fun W hSw => ?_) ?_
       ·exact (CF2.out W (xaq b2 hSw)).mono (fun e w3 h => ⟨h.1, xaq hSw h.2⟩)
       refine AllS.t ?_
       refine AllS.done (by kernel_rfl) (hR.out _ ?_) _
       clear hR R
       intro w3 b3
       go_wp2_with fail
       go_ret2
       exact ⟨rfl, xaq b2 b3⟩
      ·rw [hvf, if_neg (by simp)] at hne
       rw [hvf] at CF2
       rw [hne]
       clear hne hvf
       have hLd := HLI.out.d
       go_enter Tryz.func59, Tryz.ntmps59
       go_wp2_with fail
       refine C1.out.mono ?_
       rintro e w2 ⟨rfl, rfl⟩
       go_wp2_with fail
       refine C2.out.mono ?_
       rintro e w2 ⟨rfl, rfl⟩
       go_wp2_with (refine ldD rfl (.tmp 26) rfl _ rfl x.d hLd ?_)
       refine (CD.out _).mono ?_
       rintro e w2 ⟨rfl, b2⟩
       clear hLd C1 C2 CD
       go_wp2_with fail
       refine qax (by kernel_rfl) (fun W => Below w2.heap.size w2 W) (below_drewN (xas) 1) (fun R hR => ?_)
       refine AllS.start ?_
       iterate 3 refine AllS.t ?_
       refine AllS.r (.agg x.cells) (fun W hSw => ?_) ?_
       ·(try dsimp only at hSw)
        exact rdN (.tmp 32) rfl _ rfl x (ha ▸ HLI.out.below (xaq b2 hSw))
       refine AllS.t ?_
       refine AllS.r (.bool false) (fun W hSw => ?_) ?_
       ·(try dsimp only at hSw)
        go_simp; exact HN0.out
       refine AllS.t ?_
       iterate 10 refine AllS.u ?_
       refine AllS.t ?_
       refine AllS.c (.bool true) 113 #[.agg x.cells, .bool false] (fun W hSw => ?_) ?_
       ·exact (CF2.out W (xaq b2 hSw)).mono (fun e w3 h => ⟨h.1, xaq hSw h.2⟩)
       refine AllS.t ?_
       refine AllS.done (by kernel_rfl) (hR.out _ ?_) _
       clear hR R
       intro w3 b3
       go_wp2_with fail
       go_ret2
       exact ⟨rfl, xaq b2 b3⟩
     ·have h0n : 0 < n := by omega
      have hng : 0 < (n : Int) := by omega
      obtain ⟨q1, q2⟩ := hpp h0n
      obtain ⟨k0, k8⟩ := hkr h0n
      obtain ⟨pk, hpk⟩ : ∃ pk : Nat, x.p = pk := ⟨x.p.toNat, by omega⟩
      have hpkn : pk < n := by omega
      have hpl : pk < l.length := by rw [HM.out]; omega
      obtain ⟨y, hy⟩ := qex hpl
      have hky : qav l x.p = y.k := by unfold qav; rw [hpk, xal, xax, hy]; rfl
      obtain ⟨ad2, cap2, o2, hv2, _, ha2, hLi2⟩ := HRR.out.get (xas) hy
      rw [HM.out] at hv2
      injection hv2 with hv3 hv4 hv5
      injection hv3 with hv3
      subst hv3 hv5
      have HLI2 := xaa hLi2
      have HPK := xaa hpk
      obtain ⟨ky, hkyy⟩ : ∃ k, y.k = k := ⟨_, rfl⟩
      have HKY := xaa hkyy
      rw [hky, hkyy, decide_eq_true h0n, Bool.true_and] at hne
      have hpz : (pk : Int) < m := by omega
      clear hpp hkr q1 q2 k0 k8 hpl hy hky hv4 hLi2 hpk hkyy
      obtain ⟨bi, hbi⟩ : ∃ b, (ky == 5) = b := ⟨_, rfl⟩
      have HBI := xaa hbi
      rw [hbi] at hne
      have CF2 := xaa (CF.out bi)
      clear CF hbi
      cases hvf : qas x bi
      ·rw [hvf, if_pos rfl] at hne
       rw [hvf] at CF2
       rw [hne]
       clear hne hvf
       have hLd := HLI.out.d
       go_enter Tryz.func59, Tryz.ntmps59
       go_wp2_with fail
       refine C1.out.mono ?_
       rintro e w2 ⟨rfl, rfl⟩
       go_wp2_with fail
       refine C2.out.mono ?_
       rintro e w2 ⟨rfl, rfl⟩
       go_wp2_with (refine ldD rfl (.tmp 26) rfl _ rfl x.d hLd ?_)
       refine (CD.out _).mono ?_
       rintro e w2 ⟨rfl, b2⟩
       clear hLd C1 C2 CD
       go_wp2_with fail
       refine qax (by kernel_rfl) (fun W => Below w2.heap.size w2 W) (below_drewN (xas) 1) (fun R hR => ?_)
       refine AllS.start ?_
       iterate 3 refine AllS.t ?_
       refine AllS.r (.agg x.cells) (fun W hSw => ?_) ?_
       ·(try dsimp only at hSw)
        exact rdN (.tmp 32) rfl _ rfl x (ha ▸ HLI.out.below (xaq b2 hSw))
       refine AllS.t ?_
       refine AllS.r (.bool true) (fun W hSw => ?_) ?_
       ·(try dsimp only at hSw)
        go_simp
       iterate 6 refine AllS.t ?_
       refine AllS.r (.int .i64 (pk : Int)) (fun W hSw => ?_) ?_
       ·(try dsimp only at hSw)
        have c1 : W.cell? ⟨ad.block, o + 1, none⟩ = some (.int .i64 (pk : Int)) := ((HLI.out.below (xaq b2 hSw)).p).trans (by rw [HPK.out]); go_simp
       iterate 2 refine AllS.t ?_
       refine AllS.r (.int .u8 ky) (fun W hSw => ?_) ?_
       ·(try dsimp only at hSw)
        have c1 : W.cell? ⟨ad.block, o2, none⟩ = some (.int .u8 ky) := ((HLI2.out.below (xaq b2 hSw)).k).trans (by rw [HKY.out]); go_simp
       refine AllS.r (.bool bi) (fun W hSw => ?_) ?_
       ·(try dsimp only at hSw)
        have hbi := HBI.out; go_simp
       refine AllS.t ?_
       refine AllS.c (.bool false) 113 #[.agg x.cells, .bool bi] (fun W hSw => ?_) ?_
       ·exact (CF2.out W (xaq b2 hSw)).mono (fun e w3 h => ⟨h.1, xaq hSw h.2⟩)
       refine AllS.t ?_
       refine AllS.done (by kernel_rfl) (hR.out _ ?_) _
       clear hR R
       intro w3 b3
       go_wp2_with fail
       go_ret2
       exact ⟨rfl, xaq b2 b3⟩
      ·rw [hvf, if_neg (by simp)] at hne
       rw [hvf] at CF2
       rw [hne]
       clear hne hvf
       have hLd := HLI.out.d
       go_enter Tryz.func59, Tryz.ntmps59
       go_wp2_with fail
       refine C1.out.mono ?_
       rintro e w2 ⟨rfl, rfl⟩
       go_wp2_with fail
       refine C2.out.mono ?_
       rintro e w2 ⟨rfl, rfl⟩
       go_wp2_with (refine ldD rfl (.tmp 26) rfl _ rfl x.d hLd ?_)
       refine (CD.out _).mono ?_
       rintro e w2 ⟨rfl, b2⟩
       clear hLd C1 C2 CD
       go_wp2_with fail
       refine qax (by kernel_rfl) (fun W => Below w2.heap.size w2 W) (below_drewN (xas) 1) (fun R hR => ?_)
       refine AllS.start ?_
       iterate 3 refine AllS.t ?_
       refine AllS.r (.agg x.cells) (fun W hSw => ?_) ?_
       ·(try dsimp only at hSw)
        exact rdN (.tmp 32) rfl _ rfl x (ha ▸ HLI.out.below (xaq b2 hSw))
       refine AllS.t ?_
       refine AllS.r (.bool true) (fun W hSw => ?_) ?_
       ·(try dsimp only at hSw)
        go_simp
       iterate 6 refine AllS.t ?_
       refine AllS.r (.int .i64 (pk : Int)) (fun W hSw => ?_) ?_
       ·(try dsimp only at hSw)
        have c1 : W.cell? ⟨ad.block, o + 1, none⟩ = some (.int .i64 (pk : Int)) := ((HLI.out.below (xaq b2 hSw)).p).trans (by rw [HPK.out]); go_simp
       iterate 2 refine AllS.t ?_
       refine AllS.r (.int .u8 ky) (fun W hSw => ?_) ?_
       ·(try dsimp only at hSw)
        have c1 : W.cell? ⟨ad.block, o2, none⟩ = some (.int .u8 ky) := ((HLI2.out.below (xaq b2 hSw)).k).trans (by rw [HKY.out]); go_simp
       refine AllS.r (.bool bi) (fun W hSw => ?_) ?_
       ·(try dsimp only at hSw)
        have hbi := HBI.out; go_simp
       refine AllS.t ?_
       refine AllS.c (.bool true) 113 #[.agg x.cells, .bool bi] (fun W hSw => ?_) ?_
       ·exact (CF2.out W (xaq b2 hSw)).mono (fun e w3 h => ⟨h.1, xaq hSw h.2⟩)
       refine AllS.t ?_
       refine AllS.done (by kernel_rfl) (hR.out _ ?_) _
       clear hR R
       intro w3 b3
       go_wp2_with fail
       go_ret2
       exact ⟨rfl, xaq b2 b3⟩
    ·rw [if_pos hv] at hne
     rw [hne]
     rw [hc] at CD
     clear hne hv hc CF hpp hkr
     have hLd := HLI.out.d
     go_enter Tryz.func59, Tryz.ntmps59
     go_wp2_with fail
     refine C1.out.mono ?_
     rintro e w2 ⟨rfl, rfl⟩
     go_wp2_with fail
     refine C2.out.mono ?_
     rintro e w2 ⟨rfl, rfl⟩
     go_wp2_with (refine ldD rfl (.tmp 26) rfl _ rfl x.d hLd ?_)
     refine (CD.out _).mono ?_
     rintro e w2 ⟨rfl, b2⟩
     go_wp2_with fail
     go_ret2
     exact ⟨rfl, b2⟩
end Ar
namespace Ar
theorem qpc (l : List Nod) (v : Value) (w : World) (hR : Ns w v l) (hW : WfL l) (hTab : Tab w) :
 Calls Tryz.prog 33 #[v] w fun e w' => e = .returned (.int .i64 (chkT l)) /\ Below w.heap.size w w' := by
 have hTp := hTab.pos
 by_cases hbad : l.length = 0 \/ 1048576 < l.length
 ·have hc : chkT l = 70 := by unfold chkT; rw [if_pos hbad]
  rw [hc]
  obtain ⟨A, cap, rfl⟩ := hR.form
  obtain ⟨n, hl⟩ : ∃ n, l.length = n := ⟨_, rfl⟩
  rw [hl] at hbad |-
  clear hR hW hc hl
  rcases hbad with rfl | hb
  ·go_enter Tryz.func33, Tryz.ntmps33
   go_wp2_with fail
   go_ret
   exact ⟨rfl, xas⟩
  ·have h0 : ¬ (n : Int) = 0 := by omega
   have h1 : 1048576 < (n : Int) := by omega
   go_enter Tryz.func33, Tryz.ntmps33
   go_wp2_with fail
   go_ret
   exact ⟨rfl, xas⟩
 ·have hlen : l.length <= 1048576 := by omega
  have hpos : 0 < l.length := by omega
  have RES : Hid (chkT l = if (run [] (-1) l).1 = 0 then qcw l else (run [] (-1) l).1) := by
   show _ = _
   unfold chkT
   rw [if_neg hbad]
  have CN : Hid (∀ (k : Nat) (x : Nod) (last : Int) (W : World), Below w.heap.size w W -> l[k]? = some x -> PreOk (l.take k) last -> Calls Tryz.prog 59 #[v, .int .i64 (k : Int), .int .i64 last] W fun e w' => e = .returned (.tuple #[.int .i64 (nodeErr (l.take k) x last).2, .int .i64 (nodeErr (l.take k) x last).1]) /\ Below W.heap.size W w') := fun k x last W hw hx hP => q00 l v k x last W (hR.below hw) hW hlen hx hP (hTab.below hTp hw)
  have CL : Hid (∀ W, Below w.heap.size w W -> Calls Tryz.prog 60 #[v] W fun e w' => e = .returned (.int .i64 (qcw l)) /\ Below W.heap.size W w') := fun W hw => qs3 l v W (hR.below hw) hW hlen
  obtain ⟨A, cap, rfl⟩ := hR.form
  obtain ⟨n, hl⟩ : ∃ n, l.length = n := ⟨_, rfl⟩
  have HL := xaa hl
  rw [hl] at hlen hpos CN CL |-
  have h0 : ¬ (n : Int) = 0 := by omega
  have h1 : ¬ 1048576 < (n : Int) := by omega
  have hp0 : Hid (PreOk (l.take 0) (-1)) := xaa PreOk.nil
  clear hR hW hl hTab hbad
  go_enter Tryz.func33, Tryz.ntmps33
  go_wp2_with fail
  go_loopg [3, 16] n (fun kx s3 s16 wr => ∃ (k : Nat) (last : Int), s3 = .int .i64 last /\ s16 = .int .i64 k /\ k <= n /\ kx = n - k /\ Hid (PreOk (l.take k) last) /\ Hid (run [] (-1) l = run (l.take k) last (l.drop k)) /\ Below w.heap.size w wr)
  case atStart => exact ⟨0, -1, rfl, rfl, by omega, rfl, hp0, xaa rfl, xas⟩
  case round =>
   obtain ⟨k, last, rfl, rfl, hk, rfl, HP, HI, bel⟩ := hrel
   clear hp0
   by_cases hlt : k < n
   ·have hkl : k < l.length := by rw [HL.out]; exact hlt
    have hz : (k : Int) < n := by omega
    obtain ⟨x, hx⟩ := qex hkl
    have hd : l.drop k = x :: l.drop (k + 1) := by
     rw [List.drop_eq_getElem_cons hkl]
     congr 1
     have := xac hkl
     rw [hx] at this
     exact (xaw this).symm
    have C := xaa (CN.out k x last wr bel hx HP.out)
    have hi := HI.out
    rw [hd, run] at hi
    have HST : Hid ((nodeErr (l.take k) x last).1 = 0 -> PreOk (l.take (k + 1)) (nodeErr (l.take k) x last).2) := xaa fun h => by
     rw [qh6 hx]
     exact HP.out.step h
    have HI2 : Hid (run [] (-1) l = if (nodeErr (l.take k) x last).1 = 0 then run (l.take (k + 1)) (nodeErr (l.take k) x last).2 (l.drop (k + 1)) else ((nodeErr (l.take k) x last).1, 0)) := xaa (by rw [hi, qh6 hx])
    obtain ⟨ee, hee⟩ : ∃ e, nodeErr (l.take k) x last = e := ⟨_, rfl⟩
    rw [hee] at C HST HI2
    obtain ⟨er, dd⟩ := ee
    dsimp only at C HST HI2
    clear CN HP HI hi hd hx hee hkl
    by_cases he : er = 0
    ·subst he
     have HP' := xaa (HST.out rfl)
     have HI' : Hid (run [] (-1) l = run (l.take (k + 1)) dd (l.drop (k + 1))) := xaa (by rw [HI2.out, if_pos rfl])
     clear HST HI2
     go_wp2_with fail
     refine C.out.mono ?_
     rintro e w2 ⟨rfl, b2⟩
     go_wp2_with fail
     go_roundg (n - (k + 1))
     case measure => omega
     case rel => exact ⟨k + 1, dd, rfl, by go_num, by omega, rfl, HP', HI', bel.trans (b2.mono bel.size)⟩
    ·have RR : Hid (chkT l = er) := xaa (by rw [RES.out, HI2.out, if_neg he, if_neg he])
     clear HST HI2 RES
     go_wp2_with fail
     refine C.out.mono ?_
     rintro e w2 ⟨rfl, b2⟩
     go_wp2_with fail
     go_ret
     exact ⟨qb7 RR.out.symm, bel.trans (b2.mono bel.size)⟩
   ·obtain rfl : k = n := by omega
    have RR : Hid (chkT l = qcw l) := xaa (by
     rw [RES.out, HI.out, List.drop_of_length_le (by rw [HL.out]; omega)]
     rw [if_pos (by rfl)])
    have C := xaa (CL.out wr bel)
    clear CN CL HP HI RES
    go_wp2_with fail
    refine C.out.mono ?_
    rintro e w2 ⟨rfl, b2⟩
    go_wp2_with fail
    go_ret
    exact ⟨qb7 RR.out.symm, bel.trans (b2.mono bel.size)⟩
end Ar
end Go.Proofs.YtmceblkjbpbcoaaGreatDoor
