/- Contract of arena's validFields. Conditions: the node's kind is one of those that there are; the tables lie as the program's text lays them. -/
import Derived.Test.YtgpobhnonjdamaaDoorAr6a
import Derived.Test.YtgpobhnonjdamaaDoorYTail
namespace Go.Proofs.YtgpobhnonjdamaaDoor
open Go.ChangeShapes Go.WideShapes Go.ChangeAt Go.RowKit

theorem vf_st (x : Nod) (item : Bool) (h : fit30 x.st = false) : vFields x item = false := by simp [vFields, h]
theorem vf_en (x : Nod) (item : Bool) (h : fit30 x.en = false) : vFields x item = false := by simp [vFields, h]
theorem vf_tp (x : Nod) (item : Bool) (h : fit30 x.tp = false) : vFields x item = false := by simp [vFields, h]
theorem vf_bt (x : Nod) (item : Bool) (h : fit30 x.bt = false) : vFields x item = false := by simp [vFields, h]
theorem vf_vn (x : Nod) (item : Bool) (h : fit30 x.vn = false) : vFields x item = false := by simp [vFields, h]
theorem vf_gr (x : Nod) (item : Bool) (h : fit1k x.gr = false) : vFields x item = false := by simp [vFields, h]
theorem vf_sh (x : Nod) (item : Bool) (h : fit1k x.sh = false) : vFields x item = false := by simp [vFields, h]
theorem vf_all (x : Nod) (item : Bool) (h : fit30 x.st = true ∧ fit30 x.en = true ∧ fit30 x.tp = true ∧ fit30 x.bt = true ∧ fit30 x.vn = true ∧ fit1k x.gr = true ∧ fit1k x.sh = true) : vFields x item = (fitW x.wd && (decide (x.vk ≤ 9) && decide (x = alw x item))) := by
  obtain ⟨q0, q1, q2, q3, q4, q5, q6⟩ := h
  simp [vFields, q0, q1, q2, q3, q4, q5, q6]

set_option maxRecDepth 100000 in
set_option maxHeartbeats 8000000 in
theorem avf_any (x : Nod) (item : Bool) (w : World) (hTab : Tab w) (h0 : 0 ≤ x.k) (h8 : x.k ≤ 8) :
    Calls Tryd.prog 61 #[.agg x.cells, .bool item] w fun e w' => e = .returned (.bool (vFields x item)) ∧ Below w.heap.size w w' := by
  have hTp := hTab.pos
  have CA : Hid (∀ W, Below w.heap.size w W → Calls Tryd.prog 70 #[.agg x.cells, .bool item] W fun e w' => e = .returned (.agg (alw x item).cells) ∧ Below W.heap.size W w') := fun W hW => aallow_any x item W (hTab.below hTp hW) h0 h8
  have CW := Lib.hid awithin_any
  clear hTab h0 h8
  go_enter Tryd.func61, Tryd.ntmps61
  go_wp2_with (refine bxNV rfl (.tmp 0) rfl x rfl ?_; intro w1 b1 B1; have c15 : w1.cell? ⟨w.heap.size, 15, none⟩ = some (.int .i64 x.st) := B1.cell 15; have c16 : w1.cell? ⟨w.heap.size, 16, none⟩ = some (.int .i64 x.en) := B1.cell 16; have c17 : w1.cell? ⟨w.heap.size, 17, none⟩ = some (.int .i64 x.tp) := B1.cell 17; have c18 : w1.cell? ⟨w.heap.size, 18, none⟩ = some (.int .i64 x.bt) := B1.cell 18; have c14 : w1.cell? ⟨w.heap.size, 14, none⟩ = some (.int .i64 x.vn) := B1.cell 14;)
  clear c15 c16 c17 c18 c14
  have ix0 : ∀ W : World, (Instr.index 120 (.agg #[.int .i64 x.st, .int .i64 x.en, .int .i64 x.tp, .int .i64 x.bt, .int .i64 x.vn]) (.int .i64 0)).run Tryd.prog W = .ok (.int .i64 x.st) W := fun _ => by kernel_rfl
  have ix1 : ∀ W : World, (Instr.index 120 (.agg #[.int .i64 x.st, .int .i64 x.en, .int .i64 x.tp, .int .i64 x.bt, .int .i64 x.vn]) (.int .i64 1)).run Tryd.prog W = .ok (.int .i64 x.en) W := fun _ => by kernel_rfl
  have ix2 : ∀ W : World, (Instr.index 120 (.agg #[.int .i64 x.st, .int .i64 x.en, .int .i64 x.tp, .int .i64 x.bt, .int .i64 x.vn]) (.int .i64 2)).run Tryd.prog W = .ok (.int .i64 x.tp) W := fun _ => by kernel_rfl
  have ix3 : ∀ W : World, (Instr.index 120 (.agg #[.int .i64 x.st, .int .i64 x.en, .int .i64 x.tp, .int .i64 x.bt, .int .i64 x.vn]) (.int .i64 3)).run Tryd.prog W = .ok (.int .i64 x.bt) W := fun _ => by kernel_rfl
  have ix4 : ∀ W : World, (Instr.index 120 (.agg #[.int .i64 x.st, .int .i64 x.en, .int .i64 x.tp, .int .i64 x.bt, .int .i64 x.vn]) (.int .i64 4)).run Tryd.prog W = .ok (.int .i64 x.vn) W := fun _ => by kernel_rfl
  go_loopg [21] 5 (fun kx s21 wr => w1 = wr ∧ ∃ k : Nat, s21 = .int .i64 k ∧ k ≤ 5 ∧ kx = 5 - k ∧ Hid ((0 < k → fit30 x.st = true) ∧ (1 < k → fit30 x.en = true) ∧ (2 < k → fit30 x.tp = true) ∧ (3 < k → fit30 x.bt = true) ∧ (4 < k → fit30 x.vn = true)))
  case atStart => exact ⟨rfl, 0, rfl, by omega, rfl, Lib.hid ⟨fun h => (by omega), fun h => (by omega), fun h => (by omega), fun h => (by omega), fun h => (by omega)⟩⟩
  case round =>
    obtain ⟨rfl, k, rfl, hk, rfl, HK⟩ := hrel
    have : k = 0 ∨ k = 1 ∨ k = 2 ∨ k = 3 ∨ k = 4 ∨ k = 5 := by omega
    rcases this with rfl | rfl | rfl | rfl | rfl | rfl
    · have C := Lib.hid (fun W => CW.out x.st (-1073741824) 1073741824 W)
      cases hb : fit30 x.st
      · have hb2 : (decide (-1073741824 ≤ x.st) && decide (x.st ≤ 1073741824)) = false := hb
        rw [hb2] at C
        have RES := Lib.hid (vf_st x item hb)
        clear hb hb2
        go_wp2_with fail
        refine (C.out _).mono ?_
        rintro e w2 ⟨rfl, rfl⟩
        go_wp2_with fail
        go_ret
        exact ⟨retb RES.out.symm, b1⟩
      · have hb2 : (decide (-1073741824 ≤ x.st) && decide (x.st ≤ 1073741824)) = true := hb
        rw [hb2] at C
        have HB := Lib.hid hb
        clear hb hb2
        go_wp2_with fail
        refine (C.out _).mono ?_
        rintro e w2 ⟨rfl, rfl⟩
        go_wp2_with fail
        go_roundg 4
        case measure => omega
        case rel => exact ⟨rfl, 1, rfl, by omega, rfl, Lib.hid ⟨fun _ => HB.out, fun h => (by omega), fun h => (by omega), fun h => (by omega), fun h => (by omega)⟩⟩
    · have C := Lib.hid (fun W => CW.out x.en (-1073741824) 1073741824 W)
      cases hb : fit30 x.en
      · have hb2 : (decide (-1073741824 ≤ x.en) && decide (x.en ≤ 1073741824)) = false := hb
        rw [hb2] at C
        have RES := Lib.hid (vf_en x item hb)
        clear hb hb2
        go_wp2_with fail
        refine (C.out _).mono ?_
        rintro e w2 ⟨rfl, rfl⟩
        go_wp2_with fail
        go_ret
        exact ⟨retb RES.out.symm, b1⟩
      · have hb2 : (decide (-1073741824 ≤ x.en) && decide (x.en ≤ 1073741824)) = true := hb
        rw [hb2] at C
        have HB := Lib.hid hb
        clear hb hb2
        go_wp2_with fail
        refine (C.out _).mono ?_
        rintro e w2 ⟨rfl, rfl⟩
        go_wp2_with fail
        go_roundg 3
        case measure => omega
        case rel => exact ⟨rfl, 2, rfl, by omega, rfl, Lib.hid ⟨fun _ => HK.out.1 (by omega), fun _ => HB.out, fun h => (by omega), fun h => (by omega), fun h => (by omega)⟩⟩
    · have C := Lib.hid (fun W => CW.out x.tp (-1073741824) 1073741824 W)
      cases hb : fit30 x.tp
      · have hb2 : (decide (-1073741824 ≤ x.tp) && decide (x.tp ≤ 1073741824)) = false := hb
        rw [hb2] at C
        have RES := Lib.hid (vf_tp x item hb)
        clear hb hb2
        go_wp2_with fail
        refine (C.out _).mono ?_
        rintro e w2 ⟨rfl, rfl⟩
        go_wp2_with fail
        go_ret
        exact ⟨retb RES.out.symm, b1⟩
      · have hb2 : (decide (-1073741824 ≤ x.tp) && decide (x.tp ≤ 1073741824)) = true := hb
        rw [hb2] at C
        have HB := Lib.hid hb
        clear hb hb2
        go_wp2_with fail
        refine (C.out _).mono ?_
        rintro e w2 ⟨rfl, rfl⟩
        go_wp2_with fail
        go_roundg 2
        case measure => omega
        case rel => exact ⟨rfl, 3, rfl, by omega, rfl, Lib.hid ⟨fun _ => HK.out.1 (by omega), fun _ => HK.out.2.1 (by omega), fun _ => HB.out, fun h => (by omega), fun h => (by omega)⟩⟩
    · have C := Lib.hid (fun W => CW.out x.bt (-1073741824) 1073741824 W)
      cases hb : fit30 x.bt
      · have hb2 : (decide (-1073741824 ≤ x.bt) && decide (x.bt ≤ 1073741824)) = false := hb
        rw [hb2] at C
        have RES := Lib.hid (vf_bt x item hb)
        clear hb hb2
        go_wp2_with fail
        refine (C.out _).mono ?_
        rintro e w2 ⟨rfl, rfl⟩
        go_wp2_with fail
        go_ret
        exact ⟨retb RES.out.symm, b1⟩
      · have hb2 : (decide (-1073741824 ≤ x.bt) && decide (x.bt ≤ 1073741824)) = true := hb
        rw [hb2] at C
        have HB := Lib.hid hb
        clear hb hb2
        go_wp2_with fail
        refine (C.out _).mono ?_
        rintro e w2 ⟨rfl, rfl⟩
        go_wp2_with fail
        go_roundg 1
        case measure => omega
        case rel => exact ⟨rfl, 4, rfl, by omega, rfl, Lib.hid ⟨fun _ => HK.out.1 (by omega), fun _ => HK.out.2.1 (by omega), fun _ => HK.out.2.2.1 (by omega), fun _ => HB.out, fun h => (by omega)⟩⟩
    · have C := Lib.hid (fun W => CW.out x.vn (-1073741824) 1073741824 W)
      cases hb : fit30 x.vn
      · have hb2 : (decide (-1073741824 ≤ x.vn) && decide (x.vn ≤ 1073741824)) = false := hb
        rw [hb2] at C
        have RES := Lib.hid (vf_vn x item hb)
        clear hb hb2
        go_wp2_with fail
        refine (C.out _).mono ?_
        rintro e w2 ⟨rfl, rfl⟩
        go_wp2_with fail
        go_ret
        exact ⟨retb RES.out.symm, b1⟩
      · have hb2 : (decide (-1073741824 ≤ x.vn) && decide (x.vn ≤ 1073741824)) = true := hb
        rw [hb2] at C
        have HB := Lib.hid hb
        clear hb hb2
        go_wp2_with fail
        refine (C.out _).mono ?_
        rintro e w2 ⟨rfl, rfl⟩
        go_wp2_with fail
        go_roundg 0
        case measure => omega
        case rel => exact ⟨rfl, 5, rfl, by omega, rfl, Lib.hid ⟨fun _ => HK.out.1 (by omega), fun _ => HK.out.2.1 (by omega), fun _ => HK.out.2.2.1 (by omega), fun _ => HK.out.2.2.2.1 (by omega), fun _ => HB.out⟩⟩
    · have c20 : w1.cell? ⟨w.heap.size, 20, none⟩ = some (.int .i64 x.gr) := B1.cell 20
      have c21 : w1.cell? ⟨w.heap.size, 21, none⟩ = some (.int .i64 x.sh) := B1.cell 21
      clear ix0 ix1 ix2 ix3 ix4
      have ix0 : ∀ W : World, (Instr.index 122 (.agg #[.int .i64 x.gr, .int .i64 x.sh]) (.int .i64 0)).run Tryd.prog W = .ok (.int .i64 x.gr) W := fun _ => by kernel_rfl
      have ix1 : ∀ W : World, (Instr.index 122 (.agg #[.int .i64 x.gr, .int .i64 x.sh]) (.int .i64 1)).run Tryd.prog W = .ok (.int .i64 x.sh) W := fun _ => by kernel_rfl
      go_wp2_with fail
      go_loopg [33] 2 (fun kx s33 wr => w1 = wr ∧ ∃ k : Nat, s33 = .int .i64 k ∧ k ≤ 2 ∧ kx = 2 - k ∧ Hid ((0 < k → fit1k x.gr = true) ∧ (1 < k → fit1k x.sh = true)))
      case atStart => exact ⟨rfl, 0, rfl, by omega, rfl, Lib.hid ⟨fun h => (by omega), fun h => (by omega)⟩⟩
      case round =>
        obtain ⟨rfl, k, rfl, hk, rfl, HJ⟩ := hrel
        clear c20 c21
        have : k = 0 ∨ k = 1 ∨ k = 2 := by omega
        rcases this with rfl | rfl | rfl
        · have C := Lib.hid (fun W => CW.out x.gr 0 1000 W)
          cases hb : fit1k x.gr
          · have hb2 : (decide (0 ≤ x.gr) && decide (x.gr ≤ 1000)) = false := hb
            rw [hb2] at C
            have RES := Lib.hid (vf_gr x item hb)
            clear hb hb2
            go_wp2_with fail
            refine (C.out _).mono ?_
            rintro e w2 ⟨rfl, rfl⟩
            go_wp2_with fail
            go_ret
            exact ⟨retb RES.out.symm, b1⟩
          · have hb2 : (decide (0 ≤ x.gr) && decide (x.gr ≤ 1000)) = true := hb
            rw [hb2] at C
            have HB := Lib.hid hb
            clear hb hb2
            go_wp2_with fail
            refine (C.out _).mono ?_
            rintro e w2 ⟨rfl, rfl⟩
            go_wp2_with fail
            go_roundg 1
            case measure => omega
            case rel => exact ⟨rfl, 1, rfl, by omega, rfl, Lib.hid ⟨fun _ => HB.out, fun h => (by omega)⟩⟩
        · have C := Lib.hid (fun W => CW.out x.sh 0 1000 W)
          cases hb : fit1k x.sh
          · have hb2 : (decide (0 ≤ x.sh) && decide (x.sh ≤ 1000)) = false := hb
            rw [hb2] at C
            have RES := Lib.hid (vf_sh x item hb)
            clear hb hb2
            go_wp2_with fail
            refine (C.out _).mono ?_
            rintro e w2 ⟨rfl, rfl⟩
            go_wp2_with fail
            go_ret
            exact ⟨retb RES.out.symm, b1⟩
          · have hb2 : (decide (0 ≤ x.sh) && decide (x.sh ≤ 1000)) = true := hb
            rw [hb2] at C
            have HB := Lib.hid hb
            clear hb hb2
            go_wp2_with fail
            refine (C.out _).mono ?_
            rintro e w2 ⟨rfl, rfl⟩
            go_wp2_with fail
            go_roundg 0
            case measure => omega
            case rel => exact ⟨rfl, 2, rfl, by omega, rfl, Lib.hid ⟨fun _ => HJ.out.1 (by omega), fun _ => HB.out⟩⟩
        · have RES := Lib.hid (vf_all x item ⟨HK.out.1 (by omega), HK.out.2.1 (by omega), HK.out.2.2.1 (by omega), HK.out.2.2.2.1 (by omega), HK.out.2.2.2.2 (by omega), HJ.out.1 (by omega), HJ.out.2 (by omega)⟩)
          have HB := Lib.hid B1
          have C := Lib.hid (fun W => CW.out x.wd (-1) 1073741824 W)
          clear ix0 ix1 HK HJ B1
          cases hfw : fitW x.wd
          · have hfw2 : (decide (-1 ≤ x.wd) && decide (x.wd ≤ 1073741824)) = false := hfw
            rw [hfw2] at C
            rw [hfw] at RES
            clear hfw hfw2
            go_wp2_with fail
            refine region_any (by kernel_rfl) (fun W => Below w1.heap.size w1 W) (below_drewN (Below.refl _ _) 1) (fun R hR => ?_)
            refine AllS.take (i := 0) (v := ?_) (by rw [List.getElem?_toArray]; rfl) (by kernel_rfl) (by kernel_rfl) (by kernel_rfl) (KeepsIf.read (by rfl) ?_) ?_
            rotate_left
            · intro W hSw
              (try dsimp only at hSw)
              go_simp
              (try with_reducible rfl)
            rotate_left
            (try simp only [Act.put, List.setIfInBounds_toArray, List.set_cons_zero, List.set_cons_succ])
            refine AllS.take (i := 1) (v := ?_) (by rw [List.getElem?_toArray]; rfl) (by kernel_rfl) (by kernel_rfl) (by kernel_rfl) (KeepsIf.read (by rfl) ?_) ?_
            rotate_left
            · intro W hSw
              (try dsimp only at hSw)
              have c19 : W.cell? ⟨w.heap.size, 19, none⟩ = some (.int .i64 x.wd) := (HB.out.keep (S := fun _ => False) (Mod.of_below hSw) id).cell 19
              go_simp
              (try with_reducible rfl)
            rotate_left
            (try simp only [Act.put, List.setIfInBounds_toArray, List.set_cons_zero, List.set_cons_succ])
            refine AllS.take (i := 2) (v := .bool false) (by rw [List.getElem?_toArray]; rfl) (by kernel_rfl) (by kernel_rfl) (by kernel_rfl) (KeepsIf.call 69 #[.int .i64 x.wd, .int .i64 (-1), .int .i64 1073741824] (by kernel_rfl) (fun W => ?_) (fun W hSw => ?_)) ?_
            · go_simp
            · exact (C.out W).mono (fun e w2 h => ⟨h.1, h.2 ▸ hSw⟩)
            (try simp only [Act.put, List.setIfInBounds_toArray, List.set_cons_zero, List.set_cons_succ])
            refine AllS.take (i := 3) (v := ?_) (by rw [List.getElem?_toArray]; rfl) (by kernel_rfl) (by kernel_rfl) (by kernel_rfl) (KeepsIf.read (by rfl) ?_) ?_
            rotate_left
            · intro W hSw
              (try dsimp only at hSw)
              go_simp
              (try with_reducible rfl)
            rotate_left
            (try simp only [Act.put, List.setIfInBounds_toArray, List.set_cons_zero, List.set_cons_succ])
            refine AllS.take (i := 4) (v := undef) (by rw [List.getElem?_toArray]; rfl) (by kernel_rfl) (by kernel_rfl) (by kernel_rfl) (KeepsIf.un (by kernel_rfl)) ?_
            (try simp only [Act.put, List.setIfInBounds_toArray, List.set_cons_zero, List.set_cons_succ])
            refine AllS.take (i := 5) (v := undef) (by rw [List.getElem?_toArray]; rfl) (by kernel_rfl) (by kernel_rfl) (by kernel_rfl) (KeepsIf.un (by kernel_rfl)) ?_
            (try simp only [Act.put, List.setIfInBounds_toArray, List.set_cons_zero, List.set_cons_succ])
            refine AllS.take (i := 6) (v := undef) (by rw [List.getElem?_toArray]; rfl) (by kernel_rfl) (by kernel_rfl) (by kernel_rfl) (KeepsIf.un (by kernel_rfl)) ?_
            (try simp only [Act.put, List.setIfInBounds_toArray, List.set_cons_zero, List.set_cons_succ])
            refine AllS.take (i := 7) (v := undef) (by rw [List.getElem?_toArray]; rfl) (by kernel_rfl) (by kernel_rfl) (by kernel_rfl) (KeepsIf.un (by kernel_rfl)) ?_
            (try simp only [Act.put, List.setIfInBounds_toArray, List.set_cons_zero, List.set_cons_succ])
            refine AllS.take (i := 8) (v := ?_) (by rw [List.getElem?_toArray]; rfl) (by kernel_rfl) (by kernel_rfl) (by kernel_rfl) (KeepsIf.read (by rfl) ?_) ?_
            rotate_left
            · intro W hSw
              (try dsimp only at hSw)
              go_simp
              (try with_reducible rfl)
            rotate_left
            (try simp only [Act.put, List.setIfInBounds_toArray, List.set_cons_zero, List.set_cons_succ])
            refine AllS.take (i := 9) (v := ?_) (by rw [List.getElem?_toArray]; rfl) (by kernel_rfl) (by kernel_rfl) (by kernel_rfl) (KeepsIf.read (by rfl) ?_) ?_
            rotate_left
            · intro W hSw
              (try dsimp only at hSw)
              go_simp
              (try with_reducible rfl)
            rotate_left
            (try simp only [Act.put, List.setIfInBounds_toArray, List.set_cons_zero, List.set_cons_succ])
            refine AllS.take (i := 10) (v := undef) (by rw [List.getElem?_toArray]; rfl) (by kernel_rfl) (by kernel_rfl) (by kernel_rfl) (KeepsIf.un (by kernel_rfl)) ?_
            (try simp only [Act.put, List.setIfInBounds_toArray, List.set_cons_zero, List.set_cons_succ])
            refine AllS.take (i := 11) (v := undef) (by rw [List.getElem?_toArray]; rfl) (by kernel_rfl) (by kernel_rfl) (by kernel_rfl) (KeepsIf.un (by kernel_rfl)) ?_
            (try simp only [Act.put, List.setIfInBounds_toArray, List.set_cons_zero, List.set_cons_succ])
            refine AllS.take (i := 12) (v := undef) (by rw [List.getElem?_toArray]; rfl) (by kernel_rfl) (by kernel_rfl) (by kernel_rfl) (KeepsIf.un (by kernel_rfl)) ?_
            (try simp only [Act.put, List.setIfInBounds_toArray, List.set_cons_zero, List.set_cons_succ])
            refine AllS.take (i := 13) (v := undef) (by rw [List.getElem?_toArray]; rfl) (by kernel_rfl) (by kernel_rfl) (by kernel_rfl) (KeepsIf.un (by kernel_rfl)) ?_
            (try simp only [Act.put, List.setIfInBounds_toArray, List.set_cons_zero, List.set_cons_succ])
            refine AllS.take (i := 14) (v := undef) (by rw [List.getElem?_toArray]; rfl) (by kernel_rfl) (by kernel_rfl) (by kernel_rfl) (KeepsIf.un (by kernel_rfl)) ?_
            (try simp only [Act.put, List.setIfInBounds_toArray, List.set_cons_zero, List.set_cons_succ])
            refine AllS.take (i := 15) (v := ?_) (by rw [List.getElem?_toArray]; rfl) (by kernel_rfl) (by kernel_rfl) (by kernel_rfl) (KeepsIf.read (by rfl) ?_) ?_
            rotate_left
            · intro W hSw
              (try dsimp only at hSw)
              go_simp
              (try with_reducible rfl)
            rotate_left
            (try simp only [Act.put, List.setIfInBounds_toArray, List.set_cons_zero, List.set_cons_succ])
            refine AllS.take (i := 16) (v := ?_) (by rw [List.getElem?_toArray]; rfl) (by kernel_rfl) (by kernel_rfl) (by kernel_rfl) (KeepsIf.read (by rfl) ?_) ?_
            rotate_left
            · intro W hSw
              (try dsimp only at hSw)
              go_simp
              (try with_reducible rfl)
            rotate_left
            (try simp only [Act.put, List.setIfInBounds_toArray, List.set_cons_zero, List.set_cons_succ])
            refine AllS.done (by kernel_rfl) (hR.out _ ?_) _
            clear hR R
            intro w2 b2
            go_wp2_with fail
            go_ret
            exact ⟨retb RES.out.symm, b1.trans (b2.mono b1.size)⟩
          · have hfw2 : (decide (-1 ≤ x.wd) && decide (x.wd ≤ 1073741824)) = true := hfw
            rw [hfw2] at C
            rw [hfw, Bool.true_and] at RES
            clear hfw hfw2
            by_cases hv : x.vk ≤ 9
            · rw [decide_eq_true hv, Bool.true_and] at RES
              obtain ⟨be, hbe⟩ : ∃ b, decide (x = alw x item) = b := ⟨_, rfl⟩
              have HNE := Lib.hid (fun W => eqN x (alw x item) W be hbe)
              rw [hbe] at RES
              clear hbe
              go_wp2_with fail
              refine region_any (by kernel_rfl) (fun W => Below w1.heap.size w1 W) (below_drewN (Below.refl _ _) 1) (fun R hR => ?_)
              refine AllS.take (i := 0) (v := ?_) (by rw [List.getElem?_toArray]; rfl) (by kernel_rfl) (by kernel_rfl) (by kernel_rfl) (KeepsIf.read (by rfl) ?_) ?_
              rotate_left
              · intro W hSw
                (try dsimp only at hSw)
                go_simp
                (try with_reducible rfl)
              rotate_left
              (try simp only [Act.put, List.setIfInBounds_toArray, List.set_cons_zero, List.set_cons_succ])
              refine AllS.take (i := 1) (v := ?_) (by rw [List.getElem?_toArray]; rfl) (by kernel_rfl) (by kernel_rfl) (by kernel_rfl) (KeepsIf.read (by rfl) ?_) ?_
              rotate_left
              · intro W hSw
                (try dsimp only at hSw)
                have c19 : W.cell? ⟨w.heap.size, 19, none⟩ = some (.int .i64 x.wd) := (HB.out.keep (S := fun _ => False) (Mod.of_below hSw) id).cell 19
                go_simp
                (try with_reducible rfl)
              rotate_left
              (try simp only [Act.put, List.setIfInBounds_toArray, List.set_cons_zero, List.set_cons_succ])
              refine AllS.take (i := 2) (v := .bool true) (by rw [List.getElem?_toArray]; rfl) (by kernel_rfl) (by kernel_rfl) (by kernel_rfl) (KeepsIf.call 69 #[.int .i64 x.wd, .int .i64 (-1), .int .i64 1073741824] (by kernel_rfl) (fun W => ?_) (fun W hSw => ?_)) ?_
              · go_simp
              · exact (C.out W).mono (fun e w2 h => ⟨h.1, h.2 ▸ hSw⟩)
              (try simp only [Act.put, List.setIfInBounds_toArray, List.set_cons_zero, List.set_cons_succ])
              refine AllS.take (i := 3) (v := ?_) (by rw [List.getElem?_toArray]; rfl) (by kernel_rfl) (by kernel_rfl) (by kernel_rfl) (KeepsIf.read (by rfl) ?_) ?_
              rotate_left
              · intro W hSw
                (try dsimp only at hSw)
                go_simp
                (try with_reducible rfl)
              rotate_left
              (try simp only [Act.put, List.setIfInBounds_toArray, List.set_cons_zero, List.set_cons_succ])
              refine AllS.take (i := 4) (v := ?_) (by rw [List.getElem?_toArray]; rfl) (by kernel_rfl) (by kernel_rfl) (by kernel_rfl) (KeepsIf.read (by rfl) ?_) ?_
              rotate_left
              · intro W hSw
                (try dsimp only at hSw)
                go_simp
                (try with_reducible rfl)
              rotate_left
              (try simp only [Act.put, List.setIfInBounds_toArray, List.set_cons_zero, List.set_cons_succ])
              refine AllS.take (i := 5) (v := ?_) (by rw [List.getElem?_toArray]; rfl) (by kernel_rfl) (by kernel_rfl) (by kernel_rfl) (KeepsIf.read (by rfl) ?_) ?_
              rotate_left
              · intro W hSw
                (try dsimp only at hSw)
                go_simp
                (try with_reducible rfl)
              rotate_left
              (try simp only [Act.put, List.setIfInBounds_toArray, List.set_cons_zero, List.set_cons_succ])
              refine AllS.take (i := 6) (v := ?_) (by rw [List.getElem?_toArray]; rfl) (by kernel_rfl) (by kernel_rfl) (by kernel_rfl) (KeepsIf.read (by rfl) ?_) ?_
              rotate_left
              · intro W hSw
                (try dsimp only at hSw)
                have c13 : W.cell? ⟨w.heap.size, 13, none⟩ = some (.int .u8 x.vk) := (HB.out.keep (S := fun _ => False) (Mod.of_below hSw) id).cell 13
                go_simp
                (try with_reducible rfl)
              rotate_left
              (try simp only [Act.put, List.setIfInBounds_toArray, List.set_cons_zero, List.set_cons_succ])
              refine AllS.take (i := 7) (v := .bool true) (by rw [List.getElem?_toArray]; rfl) (by kernel_rfl) (by kernel_rfl) (by kernel_rfl) (KeepsIf.read (by rfl) (fun W hSw => ?_)) ?_
              · (try dsimp only at hSw)
                go_simp
              (try simp only [Act.put, List.setIfInBounds_toArray, List.set_cons_zero, List.set_cons_succ])
              refine AllS.take (i := 8) (v := ?_) (by rw [List.getElem?_toArray]; rfl) (by kernel_rfl) (by kernel_rfl) (by kernel_rfl) (KeepsIf.read (by rfl) ?_) ?_
              rotate_left
              · intro W hSw
                (try dsimp only at hSw)
                go_simp
                (try with_reducible rfl)
              rotate_left
              (try simp only [Act.put, List.setIfInBounds_toArray, List.set_cons_zero, List.set_cons_succ])
              refine AllS.take (i := 9) (v := ?_) (by rw [List.getElem?_toArray]; rfl) (by kernel_rfl) (by kernel_rfl) (by kernel_rfl) (KeepsIf.read (by rfl) ?_) ?_
              rotate_left
              · intro W hSw
                (try dsimp only at hSw)
                go_simp
                (try with_reducible rfl)
              rotate_left
              (try simp only [Act.put, List.setIfInBounds_toArray, List.set_cons_zero, List.set_cons_succ])
              refine AllS.take (i := 10) (v := .agg x.cells) (by rw [List.getElem?_toArray]; rfl) (by kernel_rfl) (by kernel_rfl) (by kernel_rfl) (KeepsIf.read (by rfl) (fun W hSw => ?_)) ?_
              · (try dsimp only at hSw)
                exact rdN (.tmp 2) rfl _ rfl x (HB.out.keep (S := fun _ => False) (Mod.of_below hSw) id).lies
              (try simp only [Act.put, List.setIfInBounds_toArray, List.set_cons_zero, List.set_cons_succ])
              refine AllS.take (i := 11) (v := .agg x.cells) (by rw [List.getElem?_toArray]; rfl) (by kernel_rfl) (by kernel_rfl) (by kernel_rfl) (KeepsIf.read (by rfl) (fun W hSw => ?_)) ?_
              · (try dsimp only at hSw)
                exact rdN (.tmp 2) rfl _ rfl x (HB.out.keep (S := fun _ => False) (Mod.of_below hSw) id).lies
              (try simp only [Act.put, List.setIfInBounds_toArray, List.set_cons_zero, List.set_cons_succ])
              refine AllS.take (i := 12) (v := ?_) (by rw [List.getElem?_toArray]; rfl) (by kernel_rfl) (by kernel_rfl) (by kernel_rfl) (KeepsIf.read (by rfl) ?_) ?_
              rotate_left
              · intro W hSw
                (try dsimp only at hSw)
                go_simp
                (try with_reducible rfl)
              rotate_left
              (try simp only [Act.put, List.setIfInBounds_toArray, List.set_cons_zero, List.set_cons_succ])
              refine AllS.take (i := 13) (v := .agg (alw x item).cells) (by rw [List.getElem?_toArray]; rfl) (by kernel_rfl) (by kernel_rfl) (by kernel_rfl) (KeepsIf.call 70 #[.agg x.cells, .bool item] (by kernel_rfl) (fun W => ?_) (fun W hSw => ?_)) ?_
              · go_simp
              · exact (CA.out W (b1.trans (hSw.mono b1.size))).mono (fun e w2 h => ⟨h.1, below_seq hSw h.2⟩)
              (try simp only [Act.put, List.setIfInBounds_toArray, List.set_cons_zero, List.set_cons_succ])
              refine AllS.take (i := 14) (v := .bool be) (by rw [List.getElem?_toArray]; rfl) (by kernel_rfl) (by kernel_rfl) (by kernel_rfl) (KeepsIf.read (by rfl) (fun W hSw => ?_)) ?_
              · (try dsimp only at hSw)
                have hne := HNE.out; go_simp
              (try simp only [Act.put, List.setIfInBounds_toArray, List.set_cons_zero, List.set_cons_succ])
              refine AllS.take (i := 15) (v := ?_) (by rw [List.getElem?_toArray]; rfl) (by kernel_rfl) (by kernel_rfl) (by kernel_rfl) (KeepsIf.read (by rfl) ?_) ?_
              rotate_left
              · intro W hSw
                (try dsimp only at hSw)
                go_simp
                (try with_reducible rfl)
              rotate_left
              (try simp only [Act.put, List.setIfInBounds_toArray, List.set_cons_zero, List.set_cons_succ])
              refine AllS.take (i := 16) (v := ?_) (by rw [List.getElem?_toArray]; rfl) (by kernel_rfl) (by kernel_rfl) (by kernel_rfl) (KeepsIf.read (by rfl) ?_) ?_
              rotate_left
              · intro W hSw
                (try dsimp only at hSw)
                go_simp
                (try with_reducible rfl)
              rotate_left
              (try simp only [Act.put, List.setIfInBounds_toArray, List.set_cons_zero, List.set_cons_succ])
              refine AllS.done (by kernel_rfl) (hR.out _ ?_) _
              clear hR R
              intro w2 b2
              go_wp2_with fail
              go_ret
              exact ⟨retb RES.out.symm, b1.trans (b2.mono b1.size)⟩
            · have hv2 : ¬ x.vk ≤ 9 := hv
              have hv3 : 9 < x.vk := by omega
              rw [decide_eq_false hv, Bool.false_and] at RES
              clear hv
              go_wp2_with fail
              refine region_any (by kernel_rfl) (fun W => Below w1.heap.size w1 W) (below_drewN (Below.refl _ _) 1) (fun R hR => ?_)
              refine AllS.take (i := 0) (v := ?_) (by rw [List.getElem?_toArray]; rfl) (by kernel_rfl) (by kernel_rfl) (by kernel_rfl) (KeepsIf.read (by rfl) ?_) ?_
              rotate_left
              · intro W hSw
                (try dsimp only at hSw)
                go_simp
                (try with_reducible rfl)
              rotate_left
              (try simp only [Act.put, List.setIfInBounds_toArray, List.set_cons_zero, List.set_cons_succ])
              refine AllS.take (i := 1) (v := ?_) (by rw [List.getElem?_toArray]; rfl) (by kernel_rfl) (by kernel_rfl) (by kernel_rfl) (KeepsIf.read (by rfl) ?_) ?_
              rotate_left
              · intro W hSw
                (try dsimp only at hSw)
                have c19 : W.cell? ⟨w.heap.size, 19, none⟩ = some (.int .i64 x.wd) := (HB.out.keep (S := fun _ => False) (Mod.of_below hSw) id).cell 19
                go_simp
                (try with_reducible rfl)
              rotate_left
              (try simp only [Act.put, List.setIfInBounds_toArray, List.set_cons_zero, List.set_cons_succ])
              refine AllS.take (i := 2) (v := .bool true) (by rw [List.getElem?_toArray]; rfl) (by kernel_rfl) (by kernel_rfl) (by kernel_rfl) (KeepsIf.call 69 #[.int .i64 x.wd, .int .i64 (-1), .int .i64 1073741824] (by kernel_rfl) (fun W => ?_) (fun W hSw => ?_)) ?_
              · go_simp
              · exact (C.out W).mono (fun e w2 h => ⟨h.1, h.2 ▸ hSw⟩)
              (try simp only [Act.put, List.setIfInBounds_toArray, List.set_cons_zero, List.set_cons_succ])
              refine AllS.take (i := 3) (v := ?_) (by rw [List.getElem?_toArray]; rfl) (by kernel_rfl) (by kernel_rfl) (by kernel_rfl) (KeepsIf.read (by rfl) ?_) ?_
              rotate_left
              · intro W hSw
                (try dsimp only at hSw)
                go_simp
                (try with_reducible rfl)
              rotate_left
              (try simp only [Act.put, List.setIfInBounds_toArray, List.set_cons_zero, List.set_cons_succ])
              refine AllS.take (i := 4) (v := ?_) (by rw [List.getElem?_toArray]; rfl) (by kernel_rfl) (by kernel_rfl) (by kernel_rfl) (KeepsIf.read (by rfl) ?_) ?_
              rotate_left
              · intro W hSw
                (try dsimp only at hSw)
                go_simp
                (try with_reducible rfl)
              rotate_left
              (try simp only [Act.put, List.setIfInBounds_toArray, List.set_cons_zero, List.set_cons_succ])
              refine AllS.take (i := 5) (v := ?_) (by rw [List.getElem?_toArray]; rfl) (by kernel_rfl) (by kernel_rfl) (by kernel_rfl) (KeepsIf.read (by rfl) ?_) ?_
              rotate_left
              · intro W hSw
                (try dsimp only at hSw)
                go_simp
                (try with_reducible rfl)
              rotate_left
              (try simp only [Act.put, List.setIfInBounds_toArray, List.set_cons_zero, List.set_cons_succ])
              refine AllS.take (i := 6) (v := ?_) (by rw [List.getElem?_toArray]; rfl) (by kernel_rfl) (by kernel_rfl) (by kernel_rfl) (KeepsIf.read (by rfl) ?_) ?_
              rotate_left
              · intro W hSw
                (try dsimp only at hSw)
                have c13 : W.cell? ⟨w.heap.size, 13, none⟩ = some (.int .u8 x.vk) := (HB.out.keep (S := fun _ => False) (Mod.of_below hSw) id).cell 13
                go_simp
                (try with_reducible rfl)
              rotate_left
              (try simp only [Act.put, List.setIfInBounds_toArray, List.set_cons_zero, List.set_cons_succ])
              refine AllS.take (i := 7) (v := .bool false) (by rw [List.getElem?_toArray]; rfl) (by kernel_rfl) (by kernel_rfl) (by kernel_rfl) (KeepsIf.read (by rfl) (fun W hSw => ?_)) ?_
              · (try dsimp only at hSw)
                go_simp
              (try simp only [Act.put, List.setIfInBounds_toArray, List.set_cons_zero, List.set_cons_succ])
              refine AllS.take (i := 8) (v := ?_) (by rw [List.getElem?_toArray]; rfl) (by kernel_rfl) (by kernel_rfl) (by kernel_rfl) (KeepsIf.read (by rfl) ?_) ?_
              rotate_left
              · intro W hSw
                (try dsimp only at hSw)
                go_simp
                (try with_reducible rfl)
              rotate_left
              (try simp only [Act.put, List.setIfInBounds_toArray, List.set_cons_zero, List.set_cons_succ])
              refine AllS.take (i := 9) (v := ?_) (by rw [List.getElem?_toArray]; rfl) (by kernel_rfl) (by kernel_rfl) (by kernel_rfl) (KeepsIf.read (by rfl) ?_) ?_
              rotate_left
              · intro W hSw
                (try dsimp only at hSw)
                go_simp
                (try with_reducible rfl)
              rotate_left
              (try simp only [Act.put, List.setIfInBounds_toArray, List.set_cons_zero, List.set_cons_succ])
              refine AllS.take (i := 10) (v := undef) (by rw [List.getElem?_toArray]; rfl) (by kernel_rfl) (by kernel_rfl) (by kernel_rfl) (KeepsIf.un (by kernel_rfl)) ?_
              (try simp only [Act.put, List.setIfInBounds_toArray, List.set_cons_zero, List.set_cons_succ])
              refine AllS.take (i := 11) (v := undef) (by rw [List.getElem?_toArray]; rfl) (by kernel_rfl) (by kernel_rfl) (by kernel_rfl) (KeepsIf.un (by kernel_rfl)) ?_
              (try simp only [Act.put, List.setIfInBounds_toArray, List.set_cons_zero, List.set_cons_succ])
              refine AllS.take (i := 12) (v := undef) (by rw [List.getElem?_toArray]; rfl) (by kernel_rfl) (by kernel_rfl) (by kernel_rfl) (KeepsIf.un (by kernel_rfl)) ?_
              (try simp only [Act.put, List.setIfInBounds_toArray, List.set_cons_zero, List.set_cons_succ])
              refine AllS.take (i := 13) (v := undef) (by rw [List.getElem?_toArray]; rfl) (by kernel_rfl) (by kernel_rfl) (by kernel_rfl) (KeepsIf.un (by kernel_rfl)) ?_
              (try simp only [Act.put, List.setIfInBounds_toArray, List.set_cons_zero, List.set_cons_succ])
              refine AllS.take (i := 14) (v := undef) (by rw [List.getElem?_toArray]; rfl) (by kernel_rfl) (by kernel_rfl) (by kernel_rfl) (KeepsIf.un (by kernel_rfl)) ?_
              (try simp only [Act.put, List.setIfInBounds_toArray, List.set_cons_zero, List.set_cons_succ])
              refine AllS.take (i := 15) (v := ?_) (by rw [List.getElem?_toArray]; rfl) (by kernel_rfl) (by kernel_rfl) (by kernel_rfl) (KeepsIf.read (by rfl) ?_) ?_
              rotate_left
              · intro W hSw
                (try dsimp only at hSw)
                go_simp
                (try with_reducible rfl)
              rotate_left
              (try simp only [Act.put, List.setIfInBounds_toArray, List.set_cons_zero, List.set_cons_succ])
              refine AllS.take (i := 16) (v := ?_) (by rw [List.getElem?_toArray]; rfl) (by kernel_rfl) (by kernel_rfl) (by kernel_rfl) (KeepsIf.read (by rfl) ?_) ?_
              rotate_left
              · intro W hSw
                (try dsimp only at hSw)
                go_simp
                (try with_reducible rfl)
              rotate_left
              (try simp only [Act.put, List.setIfInBounds_toArray, List.set_cons_zero, List.set_cons_succ])
              refine AllS.done (by kernel_rfl) (hR.out _ ?_) _
              clear hR R
              intro w2 b2
              go_wp2_with fail
              go_ret
              exact ⟨retb RES.out.symm, b1.trans (b2.mono b1.size)⟩
end Go.Proofs.YtgpobhnonjdamaaDoor
