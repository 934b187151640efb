/- Contracts of the document's answers for layer 8 (package stickfulref08): goes, turned, kinds. Conditions: the lists lie where the slices say, at most 1048576 elements; each node has a style. -/
import Derived.Test.YtejcfhfmdijimaaDoorWhR3
namespace Go.Proofs.YtejcfhfmdijimaaDoor
open Go.ChangeShapes Go.WideShapes Go.ChangeAt Go.RowKit
open Wh


theorem rwide_is_ (x : Cr) (b : Bool) (hb : wide wideB x = b) (w : World) : Calls Tryd.prog 67 #[.agg (chA x)] w fun e w' => e = .returned (.bool b) ∧ Below w.heap.size w w' := hb ▸ rwide_any x w
set_option maxRecDepth 100000 in
set_option maxHeartbeats 8000000 in
theorem rgoes_any (l : List Cr) (v : Value) (i : Nat) (w : World) (hR : RwC w v l) (hn : l.length ≤ 1048576) (hi : i < l.length) :
    Calls Tryd.prog 57 #[v, .int .i64 (i : Nat)] w fun e w' => e = .returned (.bool (goes wideB (pO l i) (l.drop (i + 1)))) ∧ Below w.heap.size w w' := by
  have H1 := Lib.hid hR
  obtain ⟨A, c, hv0⟩ := hR.form
  obtain ⟨n, hl⟩ : ∃ n, l.length = n := ⟨_, rfl⟩
  have HL := Lib.hid hl
  rw [hl] at hn hi hv0
  obtain ⟨B, hB⟩ : ∃ b, goes wideB (pO l i) (l.drop (i + 1)) = b := ⟨_, rfl⟩
  rw [hB]
  have HB := Lib.hid hB
  have HLI : Hid (∀ (k : Nat) (y : Cr) (a : Addr) (o : Nat), l[k]? = some y → v = .slice (some a) n c → a.add (k * 5) = ⟨a.block, o, none⟩ → ∀ X, Below w.heap.size w X → Lies X ⟨a.block, o, none⟩ (chA y)) := Lib.hid fun k y a o hy hv ha X h => by
    obtain ⟨a6, cap6, o6, hv6, _, ha6, hL6⟩ := H1.out.get h hy
    rw [hv] at hv6
    injection hv6 with e1 e2 e3
    injection e1 with e1
    subst e1
    rw [ha] at ha6
    injection ha6 with _ e4
    subst e4
    exact hL6
  clear hR hl hB
  subst hv0
  go_enter Tryd.func57, Tryd.ntmps57
  by_cases hi0 : i = 0
  · subst hi0
    by_cases hlast : 0 + 1 = n
    · obtain rfl : n = 1 := by omega
      have HF : Hid (B = false) := Lib.hid (by rw [← HB.out]; unfold goes; rw [pIs_zero, pWide_zero, hdIs_end (by rw [HL.out]; omega), hdWide_end (by rw [HL.out]; omega)]; simp)
      go_wp2_with fail
      go_ret
      exact ⟨retb HF.out.symm, (Below.refl _ _)⟩
    · have hk1 : (1 : Int) < n := by omega
      obtain ⟨z, hz⟩ := atR_of (l := l) (i := 0 + 1) (by rw [HL.out]; omega)
      obtain ⟨a2, capa2, o2, hv, _, ha2, hLa2⟩ := H1.out.get (Below.refl _ _) hz
      rw [HL.out] at hv
      injection hv with hv1 hv2 hv3
      subst hv1 hv3
      have HLZ := Lib.hid (HLI.out (0 + 1) z a2 o2 hz rfl ha2)
      have HZZ := Lib.hid hz
      have HPZ := Lib.hid ha2
      clear hv2 hLa2 hz
      obtain ⟨c2, hc2⟩ : ∃ b, is z 8203 = b := ⟨_, rfl⟩
      have HC2 := Lib.hid hc2
      have C2 := Lib.hid (ris_is z 8203 c2 hc2)
      clear hc2
      obtain ⟨d2, hd2⟩ : ∃ b, wide wideB z = b := ⟨_, rfl⟩
      have HD2 := Lib.hid hd2
      have D2 := Lib.hid (rwide_is_ z d2 hd2)
      clear hd2
      have L6 := HLZ.out _ (Below.refl _ _)
      go_wp2_with (first | (refine ldCIf (by kernel_rfl) (.tmp 29) rfl _ rfl z L6 ?_) | (refine ldCIf (by kernel_rfl) (.tmp 29) rfl _ rfl z (HPZ.out ▸ L6) ?_))
      refine (C2.out _).mono ?_
      rintro e u6 ⟨rfl, e6⟩
      have d6 := below_seq (Below.refl _ _) e6
      clear L6 e6
      cases c2 with
      | true =>
        have HF : Hid (B = true) := Lib.hid (by rw [← HB.out]; unfold goes; rw [pIs_zero, pWide_zero, hdIs_at HZZ.out, hdWide_at HZZ.out, HC2.out, HD2.out]; simp)
        go_wp2_with fail
        go_ret
        exact ⟨retb HF.out.symm, d6⟩
      | false =>
        have HF : Hid (B = false) := Lib.hid (by rw [← HB.out]; unfold goes; rw [pIs_zero, pWide_zero, hdIs_at HZZ.out, hdWide_at HZZ.out, HC2.out, HD2.out]; simp)
        go_wp2_with fail
        go_ret
        exact ⟨retb HF.out.symm, d6⟩
  · obtain ⟨q1, rfl⟩ : ∃ q1, i = q1 + 1 := ⟨i - 1, by omega⟩
    by_cases hlast : q1 + 1 + 1 = n
    · obtain rfl : n = q1 + 1 + 1 := by omega
      have hzq : (q1 : Int) < (q1 : Int) + 1 + 1 := by omega
      have hpos : (0 : Int) < (q1 : Int) + 1 := by omega
      obtain ⟨y, hy⟩ := atR_of (l := l) (i := q1) (by rw [HL.out]; omega)
      obtain ⟨a1, capa1, o1, hv, _, ha1, hLa1⟩ := H1.out.get (Below.refl _ _) hy
      rw [HL.out] at hv
      injection hv with hv1 hv2 hv3
      subst hv1 hv3
      have HLY := Lib.hid (HLI.out (q1) y a1 o1 hy rfl ha1)
      have HYY := Lib.hid hy
      have HPY := Lib.hid ha1
      clear hv2 hLa1 hy
      obtain ⟨c1, hc1⟩ : ∃ b, is y 8203 = b := ⟨_, rfl⟩
      have HC1 := Lib.hid hc1
      have C1 := Lib.hid (ris_is y 8203 c1 hc1)
      clear hc1
      obtain ⟨d1, hd1⟩ : ∃ b, wide wideB y = b := ⟨_, rfl⟩
      have HD1 := Lib.hid hd1
      have D1 := Lib.hid (rwide_is_ y d1 hd1)
      clear hd1
      have L5 := HLY.out _ (Below.refl _ _)
      go_wp2_with (first | (refine ldCIf (by kernel_rfl) (.tmp 19) rfl _ rfl y L5 ?_) | (refine ldCIf (by kernel_rfl) (.tmp 19) rfl _ rfl y (HPY.out ▸ L5) ?_))
      refine (C1.out _).mono ?_
      rintro e u5 ⟨rfl, e5⟩
      have d5 := below_seq (Below.refl _ _) e5
      clear L5 e5
      cases c1 with
      | true =>
        have HF : Hid (B = true) := Lib.hid (by rw [← HB.out]; unfold goes; rw [pIs_succ HYY.out, pWide_succ HYY.out, HC1.out, HD1.out, hdIs_end (by rw [HL.out]; omega), hdWide_end (by rw [HL.out]; omega)]; simp)
        go_wp2_with fail
        go_ret
        exact ⟨retb HF.out.symm, d5⟩
      | false =>
        have HF : Hid (B = false) := Lib.hid (by rw [← HB.out]; unfold goes; rw [pIs_succ HYY.out, pWide_succ HYY.out, HC1.out, HD1.out, hdIs_end (by rw [HL.out]; omega), hdWide_end (by rw [HL.out]; omega)]; simp)
        go_wp2_with fail
        go_ret
        exact ⟨retb HF.out.symm, d5⟩
    · have hk1 : (q1 : Int) + 1 + 1 < n := by omega
      have hzq : (q1 : Int) < n := by omega
      have hpos : (0 : Int) < (q1 : Int) + 1 := by omega
      obtain ⟨y, hy⟩ := atR_of (l := l) (i := q1) (by rw [HL.out]; omega)
      obtain ⟨a1, capa1, o1, hv, _, ha1, hLa1⟩ := H1.out.get (Below.refl _ _) hy
      rw [HL.out] at hv
      injection hv with hv1 hv2 hv3
      subst hv1 hv3
      have HLY := Lib.hid (HLI.out (q1) y a1 o1 hy rfl ha1)
      have HYY := Lib.hid hy
      have HPY := Lib.hid ha1
      clear hv2 hLa1 hy
      obtain ⟨c1, hc1⟩ : ∃ b, is y 8203 = b := ⟨_, rfl⟩
      have HC1 := Lib.hid hc1
      have C1 := Lib.hid (ris_is y 8203 c1 hc1)
      clear hc1
      obtain ⟨d1, hd1⟩ : ∃ b, wide wideB y = b := ⟨_, rfl⟩
      have HD1 := Lib.hid hd1
      have D1 := Lib.hid (rwide_is_ y d1 hd1)
      clear hd1
      obtain ⟨z, hz⟩ := atR_of (l := l) (i := q1 + 1 + 1) (by rw [HL.out]; omega)
      obtain ⟨a2, capa2, o2, hv, _, ha2, hLa2⟩ := H1.out.get (Below.refl _ _) hz
      rw [HL.out] at hv
      injection hv with hv1 hv2 hv3
      injection hv1 with hv1
      subst hv1
      have HLZ := Lib.hid (HLI.out (q1 + 1 + 1) z a1 o2 hz rfl ha2)
      have HZZ := Lib.hid hz
      have HPZ := Lib.hid ha2
      clear hv2 hv3 hLa2 hz
      obtain ⟨c2, hc2⟩ : ∃ b, is z 8203 = b := ⟨_, rfl⟩
      have HC2 := Lib.hid hc2
      have C2 := Lib.hid (ris_is z 8203 c2 hc2)
      clear hc2
      obtain ⟨d2, hd2⟩ : ∃ b, wide wideB z = b := ⟨_, rfl⟩
      have HD2 := Lib.hid hd2
      have D2 := Lib.hid (rwide_is_ z d2 hd2)
      clear hd2
      have L5 := HLY.out _ (Below.refl _ _)
      go_wp2_with (first | (refine ldCIf (by kernel_rfl) (.tmp 19) rfl _ rfl y L5 ?_) | (refine ldCIf (by kernel_rfl) (.tmp 19) rfl _ rfl y (HPY.out ▸ L5) ?_))
      refine (C1.out _).mono ?_
      rintro e u5 ⟨rfl, e5⟩
      have d5 := below_seq (Below.refl _ _) e5
      clear L5 e5
      cases c1 with
      | true =>
        have HF : Hid (B = true) := Lib.hid (by rw [← HB.out]; unfold goes; rw [pIs_succ HYY.out, pWide_succ HYY.out, HC1.out, HD1.out, hdIs_at HZZ.out, hdWide_at HZZ.out, HC2.out, HD2.out]; simp)
        go_wp2_with fail
        go_ret
        exact ⟨retb HF.out.symm, d5⟩
      | false =>
        have L6 := HLZ.out _ d5
        go_wp2_with (first | (refine ldCIf (by kernel_rfl) (.tmp 29) rfl _ rfl z L6 ?_) | (refine ldCIf (by kernel_rfl) (.tmp 29) rfl _ rfl z (HPZ.out ▸ L6) ?_))
        refine (C2.out _).mono ?_
        rintro e u6 ⟨rfl, e6⟩
        have d6 := below_seq d5 e6
        clear L6 e6
        cases c2 with
        | true =>
          have HF : Hid (B = true) := Lib.hid (by rw [← HB.out]; unfold goes; rw [pIs_succ HYY.out, pWide_succ HYY.out, HC1.out, HD1.out, hdIs_at HZZ.out, hdWide_at HZZ.out, HC2.out, HD2.out]; simp)
          go_wp2_with fail
          go_ret
          exact ⟨retb HF.out.symm, d6⟩
        | false =>
          have L7 := HLY.out _ d6
          go_wp2_with (first | (refine ldCIf (by kernel_rfl) (.tmp 42) rfl _ rfl y L7 ?_) | (refine ldCIf (by kernel_rfl) (.tmp 42) rfl _ rfl y (HPY.out ▸ L7) ?_))
          refine (D1.out _).mono ?_
          rintro e u7 ⟨rfl, e7⟩
          have d7 := below_seq d6 e7
          clear L7 e7
          cases d1 with
          | true =>
            have L8 := HLZ.out _ d7
            go_wp2_with (first | (refine ldCIf (by kernel_rfl) (.tmp 50) rfl _ rfl z L8 ?_) | (refine ldCIf (by kernel_rfl) (.tmp 50) rfl _ rfl z (HPZ.out ▸ L8) ?_))
            refine (D2.out _).mono ?_
            rintro e u8 ⟨rfl, e8⟩
            have d8 := below_seq d7 e8
            clear L8 e8
            cases d2 with
            | true =>
              have HF : Hid (B = true) := Lib.hid (by rw [← HB.out]; unfold goes; rw [pIs_succ HYY.out, pWide_succ HYY.out, HC1.out, HD1.out, hdIs_at HZZ.out, hdWide_at HZZ.out, HC2.out, HD2.out]; simp)
              go_wp2_with fail
              go_ret
              exact ⟨retb HF.out.symm, d8⟩
            | false =>
              have HF : Hid (B = false) := Lib.hid (by rw [← HB.out]; unfold goes; rw [pIs_succ HYY.out, pWide_succ HYY.out, HC1.out, HD1.out, hdIs_at HZZ.out, hdWide_at HZZ.out, HC2.out, HD2.out]; simp)
              go_wp2_with fail
              go_ret
              exact ⟨retb HF.out.symm, d8⟩
          | false =>
            have HF : Hid (B = false) := Lib.hid (by rw [← HB.out]; unfold goes; rw [pIs_succ HYY.out, pWide_succ HYY.out, HC1.out, HD1.out, hdIs_at HZZ.out, hdWide_at HZZ.out, HC2.out, HD2.out]; simp)
            go_wp2_with fail
            go_ret
            exact ⟨retb HF.out.symm, d7⟩

set_option maxRecDepth 100000 in
set_option maxHeartbeats 8000000 in
theorem rturned_any (l : List Cr) (v : Value) (ss : List Sty) (sv : Value) (w : World) (hR : RwC w v l) (hS : Ss w sv ss) (hN : NdOk ss l) (hn : l.length ≤ 1048576) :
    Calls Tryd.prog 28 #[v, sv] w fun e w' => ∃ u, e = .returned u ∧ OwC w.heap.size w' u (turned (whF ss) wideB none l) ∧ Below w.heap.size w w' := by
  have H1 := Lib.hid hR
  have HS := Lib.hid hS
  have HN := Lib.hid hN
  obtain ⟨W, hW⟩ : ∃ W, whF ss = W := ⟨_, rfl⟩
  have HW := Lib.hid hW
  obtain ⟨A, c, hv0⟩ := hR.form
  obtain ⟨n, hl⟩ : ∃ n, l.length = n := ⟨_, rfl⟩
  have HL := Lib.hid hl
  have HV0 := Lib.hid hv0
  rw [hl] at hn hv0
  obtain ⟨res, hres⟩ : ∃ r, turned (whF ss) wideB none l = r := ⟨_, rfl⟩
  rw [hres]
  have H0 : Hid ([] ++ turned W wideB (pO l 0) (l.drop 0) = res) := Lib.hid (by rw [← hres, ← hW]; rfl)
  clear hR hl hres hS hN hW
  subst hv0
  go_enter Tryd.func28, Tryd.ntmps28
  go_wp2_with fail
  have O0 : OwC w.heap.size w (.slice none 0 0) [] := World.ownsRow_nil _ _ _ _
  go_loopg [5, 6] n (fun kx s5 s6 wr => ∃ (k : Nat) (u : Value) (acc : List Cr), u = s5 ∧ s6 = .int .i64 k ∧ k ≤ n ∧ kx = n - k ∧ acc.length ≤ k ∧ OwC w.heap.size wr u acc ∧ Below w.heap.size w wr ∧ Hid (acc ++ turned W wideB (pO l k) (l.drop k) = res))
  case atStart => exact ⟨0, _, [], rfl, rfl, by omega, by omega, by simp, O0, Below.refl _ _, H0⟩
  case round =>
    clear O0 H0
    obtain ⟨k, u, acc, rfl, rfl, hk, rfl, hal, O, b, HA⟩ := hrel
    by_cases hkm : k < n
    · have hkz : (k : Int) < n := by omega
      obtain ⟨x, hx⟩ := atR_of (l := l) (i := k) (by rw [HL.out]; exact hkm)
      obtain ⟨a1, capa1, o1, hv, _, ha1, hLa1⟩ := H1.out.get b hx
      rw [HL.out] at hv
      injection hv with hv1 hv2 hv3
      subst hv1 hv3
      have HAL := Lib.hid hal
      have HX := Lib.hid hx
      have HLX := Lib.hid hLa1
      have HO := Lib.hid O
      have HB := Lib.hid b
      have hbs := b.size
      obtain ⟨j, s, hj, hs⟩ := HN.out x (List.mem_of_getElem? hx)
      have HJ := Lib.hid hj
      have HSJ := Lib.hid hs
      have HSW : Hid (∀ X, Below wr.heap.size wr X → Ss X sv ss) := Lib.hid fun X h => HS.out.below (below_seq HB.out h)
      clear hv2 hx hLa1 O b hj hs
      obtain ⟨c1, hc1⟩ : ∃ b, soft W x = b := ⟨_, rfl⟩
      have HC1 := Lib.hid hc1
      have Cc1 : Hid (∀ X, Below wr.heap.size wr X → Calls Tryd.prog 56 #[.agg (chA x), sv] X fun e w' => e = .returned (.bool c1) ∧ Below X.heap.size X w') := Lib.hid fun X h => by have := rsoft_any x ss sv X (HSW.out X h) j s HJ.out HSJ.out; rwa [HW.out, HC1.out] at this
      clear hc1
      have L1 := HLX.out
      go_wp2_with (first | (refine ldC rfl (.tmp 16) rfl _ rfl x L1 ?_) | (refine nwC rfl rfl 7 rfl rfl (.tmp 17) rfl rfl x (fun _ => rfl) (fun _ => rfl) ?_; intro w3 b3 B3) | (refine ldC rfl (.tmp 7) rfl _ rfl x B3.lies ?_))
      clear L1
      refine (Cc1.out _ b3).mono ?_
      rintro e u2 ⟨rfl, d2⟩
      have d4 := below_seq b3 d2
      have B4 := B3.keep (S := fun _ => False) (Mod.of_below d2) id
      cases c1 with
      | true =>
        obtain ⟨c2, h2⟩ : ∃ b, goes wideB (pO l k) (l.drop (k + 1)) = b := ⟨_, rfl⟩
        have HC2 := Lib.hid h2
        have C2 : Hid (∀ X, Below wr.heap.size wr X → Calls Tryd.prog 57 #[.slice (some a1) n c, .int .i64 (k : Nat)] X fun e w' => e = .returned (.bool c2) ∧ Below X.heap.size X w') := Lib.hid fun X h => h2 ▸ rgoes_any l _ k X (H1.out.below (below_seq HB.out h)) (by rw [HL.out]; exact hn) (by rw [HL.out]; exact hkm)
        clear h2
        go_wp2_with fail
        refine (C2.out _ d4).mono ?_
        rintro e u3 ⟨rfl, d3⟩
        have d5 := below_seq d4 d3
        have B5 := B4.keep (S := fun _ => False) (Mod.of_below d3) id
        cases c2 with
        | true =>
          have HAD : Hid (acc ++ turned W wideB (pO l (k + 1)) (l.drop (k + 1)) = res) := Lib.hid (by have := HA.out; rw [turned_at HX.out] at this; rw [HC1.out, HC2.out] at this; exact this)
          clear HA
          go_wp2_with fail
          go_roundg (n - (k + 1))
          case measure => omega
          case rel => exact ⟨k + 1, _, acc, rfl, by go_num, by omega, by omega, by omega, HO.out.below d5, HB.out.trans (d5.mono hbs), HAD⟩
        | false =>
          have HT : turn W x = { x with r := 32 } := by unfold turn; rw [if_pos HC1.out]
          have M0 := (Mod.setCell (S := fun k => k = wr.heap.size) (Mod.of_below (Below.refl _ (u3))) (p := ⟨wr.heap.size, 0, none⟩) (.inl rfl) (.int .i32 32)).below d5.size fun k hk => by omega
          have D0 := d5.trans M0
          have B0x := B5.set_ 0 (.int .i32 32)
          have s0 : u3.cell? ⟨wr.heap.size, 0, none⟩ = some (.int .i32 x.r) := B5.cell 0
          have f0 := B5.frozen 0
          have BF : Blk (u3.setCell ⟨wr.heap.size, 0, none⟩ (.int .i32 32)) wr.heap.size 38 (chA ({ x with r := 32 })) := B0x
          have HAK : Hid ((acc ++ [{ x with r := 32 }]) ++ turned W wideB (pO l (k + 1)) (l.drop (k + 1)) = res) := Lib.hid (by have := HA.out; rw [turned_at HX.out] at this; rw [HC1.out, HC2.out, HT] at this; simpa using this)
          have O2 := HO.out.below D0
          have hb2 := HB.out.trans (D0.mono hbs)
          have L2 := BF.lies
          have hbs2 := hb2.size
          have HB2 := Lib.hid hb2
          clear HA BF M0 B0x
          go_wp2_with (first | (refine ldC rfl (.tmp 7) rfl _ rfl ({ x with r := 32 }) L2 ?_) | (refine apC (o1 := ⟨some 35, _, _, _, _, _⟩) rfl (.tmp 34) rfl 35 rfl rfl (.tmp 33) rfl ({ x with r := 32 }) rfl _ (fun _ => rfl) (fun _ => rfl) w.heap.size acc.length _ O2 (by omega) hbs2 ?_; intro u4 v5 w5 O5 b5; refine Mk.out ?_))
          constructor
          have O6 : OwC w.heap.size w5 v5 (acc ++ [{ x with r := 32 }]) := by unfold OwC; rw [List.length_append, flatC_snoc]; exact O5
          have b6 := HB2.out.trans b5
          clear O5 b5 O2 hb2 L2
          go_wp2_with fail
          go_roundg (n - (k + 1))
          case measure => omega
          case rel => exact ⟨k + 1, _, acc ++ [{ x with r := 32 }], rfl, by go_num, by omega, by omega, (by have := HAL.out; rw [List.length_append]; show acc.length + 1 ≤ _; omega), O6, b6, HAK⟩
      | false =>
        obtain ⟨c3, h3⟩ : ∃ b, endc x = b := ⟨_, rfl⟩
        have HC3 := Lib.hid h3
        have C3 := Lib.hid (rend_is x c3 h3)
        clear h3
        go_wp2_with (first | (refine ldC rfl (.tmp 7) rfl _ rfl x B4.lies ?_))
        refine (C3.out _).mono ?_
        rintro e u3 ⟨rfl, d3⟩
        have d5 := below_seq d4 d3
        have B5 := B4.keep (S := fun _ => False) (Mod.of_below d3) id
        cases c3 with
        | true =>
          have HT : turn W x = { x with kind := 5, r := 10 } := by unfold turn; rw [if_neg (by rw [HC1.out]; simp), if_pos HC3.out]
          have M0 := (Mod.setCell (S := fun k => k = wr.heap.size) (Mod.of_below (Below.refl _ (u3))) (p := ⟨wr.heap.size, 4, none⟩) (.inl rfl) (.int .u8 5)).below d5.size fun k hk => by omega
          have D0 := d5.trans M0
          have B0x := B5.set_ 4 (.int .u8 5)
          have M1 := (Mod.setCell (S := fun k => k = wr.heap.size) (Mod.of_below (Below.refl _ ((u3.setCell ⟨wr.heap.size, 4, none⟩ (.int .u8 5))))) (p := ⟨wr.heap.size, 0, none⟩) (.inl rfl) (.int .i32 10)).below D0.size fun k hk => by omega
          have D1 := D0.trans M1
          have B1x := B0x.set_ 0 (.int .i32 10)
          have s0 : u3.cell? ⟨wr.heap.size, 4, none⟩ = some (.int .u8 x.kind) := B5.cell 4
          have f0 := B5.frozen 4
          have s1 : u3.cell? ⟨wr.heap.size, 0, none⟩ = some (.int .i32 x.r) := B5.cell 0
          have f1 := B5.frozen 0
          have BF : Blk ((u3.setCell ⟨wr.heap.size, 4, none⟩ (.int .u8 5)).setCell ⟨wr.heap.size, 0, none⟩ (.int .i32 10)) wr.heap.size 38 (chA ({ x with kind := 5, r := 10 })) := B1x
          have HAK : Hid ((acc ++ [{ x with kind := 5, r := 10 }]) ++ turned W wideB (pO l (k + 1)) (l.drop (k + 1)) = res) := Lib.hid (by have := HA.out; rw [turned_at HX.out] at this; rw [HC1.out, HT] at this; simpa using this)
          have O2 := HO.out.below D1
          have hb2 := HB.out.trans (D1.mono hbs)
          have L2 := BF.lies
          have hbs2 := hb2.size
          have HB2 := Lib.hid hb2
          clear HA BF M0 B0x M1 B1x
          go_wp2_with (first | (refine ldC rfl (.tmp 7) rfl _ rfl ({ x with kind := 5, r := 10 }) L2 ?_) | (refine apC (o1 := ⟨some 35, _, _, _, _, _⟩) rfl (.tmp 34) rfl 35 rfl rfl (.tmp 33) rfl ({ x with kind := 5, r := 10 }) rfl _ (fun _ => rfl) (fun _ => rfl) w.heap.size acc.length _ O2 (by omega) hbs2 ?_; intro u4 v5 w5 O5 b5; refine Mk.out ?_))
          constructor
          have O6 : OwC w.heap.size w5 v5 (acc ++ [{ x with kind := 5, r := 10 }]) := by unfold OwC; rw [List.length_append, flatC_snoc]; exact O5
          have b6 := HB2.out.trans b5
          clear O5 b5 O2 hb2 L2
          go_wp2_with fail
          go_roundg (n - (k + 1))
          case measure => omega
          case rel => exact ⟨k + 1, _, acc ++ [{ x with kind := 5, r := 10 }], rfl, by go_num, by omega, by omega, (by have := HAL.out; rw [List.length_append]; show acc.length + 1 ≤ _; omega), O6, b6, HAK⟩
        | false =>
          obtain ⟨c4, hc4⟩ : ∃ b, wht W x = b := ⟨_, rfl⟩
          have HC4 := Lib.hid hc4
          have Cc4 : Hid (∀ X, Below wr.heap.size wr X → Calls Tryd.prog 54 #[.agg (chA x), sv] X fun e w' => e = .returned (.bool c4) ∧ Below X.heap.size X w') := Lib.hid fun X h => by have := rwht_any x ss sv X (HSW.out X h) j s HJ.out HSJ.out; rwa [HW.out, HC4.out] at this
          clear hc4
          go_wp2_with (first | (refine ldC rfl (.tmp 7) rfl _ rfl x B5.lies ?_))
          refine (Cc4.out _ d5).mono ?_
          rintro e u4 ⟨rfl, d6⟩
          have d7 := below_seq d5 d6
          have B7 := B5.keep (S := fun _ => False) (Mod.of_below d6) id
          cases c4 with
          | true =>
            have HT : turn W x = { x with r := 32 } := by unfold turn; rw [if_neg (by rw [HC1.out]; simp), if_neg (by rw [HC3.out]; simp), if_pos HC4.out]
            have M0 := (Mod.setCell (S := fun k => k = wr.heap.size) (Mod.of_below (Below.refl _ (u4))) (p := ⟨wr.heap.size, 0, none⟩) (.inl rfl) (.int .i32 32)).below d7.size fun k hk => by omega
            have D0 := d7.trans M0
            have B0x := B7.set_ 0 (.int .i32 32)
            have s0 : u4.cell? ⟨wr.heap.size, 0, none⟩ = some (.int .i32 x.r) := B7.cell 0
            have f0 := B7.frozen 0
            have BF : Blk (u4.setCell ⟨wr.heap.size, 0, none⟩ (.int .i32 32)) wr.heap.size 38 (chA ({ x with r := 32 })) := B0x
            have HAK : Hid ((acc ++ [{ x with r := 32 }]) ++ turned W wideB (pO l (k + 1)) (l.drop (k + 1)) = res) := Lib.hid (by have := HA.out; rw [turned_at HX.out] at this; rw [HC1.out, HT] at this; simpa using this)
            have O2 := HO.out.below D0
            have hb2 := HB.out.trans (D0.mono hbs)
            have L2 := BF.lies
            have hbs2 := hb2.size
            have HB2 := Lib.hid hb2
            clear HA BF M0 B0x
            go_wp2_with (first | (refine ldC rfl (.tmp 7) rfl _ rfl ({ x with r := 32 }) L2 ?_) | (refine apC (o1 := ⟨some 35, _, _, _, _, _⟩) rfl (.tmp 34) rfl 35 rfl rfl (.tmp 33) rfl ({ x with r := 32 }) rfl _ (fun _ => rfl) (fun _ => rfl) w.heap.size acc.length _ O2 (by omega) hbs2 ?_; intro u4 v5 w5 O5 b5; refine Mk.out ?_))
            constructor
            have O6 : OwC w.heap.size w5 v5 (acc ++ [{ x with r := 32 }]) := by unfold OwC; rw [List.length_append, flatC_snoc]; exact O5
            have b6 := HB2.out.trans b5
            clear O5 b5 O2 hb2 L2
            go_wp2_with fail
            go_roundg (n - (k + 1))
            case measure => omega
            case rel => exact ⟨k + 1, _, acc ++ [{ x with r := 32 }], rfl, by go_num, by omega, by omega, (by have := HAL.out; rw [List.length_append]; show acc.length + 1 ≤ _; omega), O6, b6, HAK⟩
          | false =>
            have HT : turn W x = x := by unfold turn; rw [if_neg (by rw [HC1.out]; simp), if_neg (by rw [HC3.out]; simp), if_neg (by rw [HC4.out]; simp)]
            have BF : Blk u4 wr.heap.size 38 (chA (x)) := B7
            have HAK : Hid ((acc ++ [x]) ++ turned W wideB (pO l (k + 1)) (l.drop (k + 1)) = res) := Lib.hid (by have := HA.out; rw [turned_at HX.out] at this; rw [HC1.out, HT] at this; simpa using this)
            have O2 := HO.out.below d7
            have hb2 := HB.out.trans (d7.mono hbs)
            have L2 := BF.lies
            have hbs2 := hb2.size
            have HB2 := Lib.hid hb2
            clear HA BF 
            go_wp2_with (first | (refine ldC rfl (.tmp 7) rfl _ rfl (x) L2 ?_) | (refine apC (o1 := ⟨some 35, _, _, _, _, _⟩) rfl (.tmp 34) rfl 35 rfl rfl (.tmp 33) rfl (x) rfl _ (fun _ => rfl) (fun _ => rfl) w.heap.size acc.length _ O2 (by omega) hbs2 ?_; intro u4 v5 w5 O5 b5; refine Mk.out ?_))
            constructor
            have O6 : OwC w.heap.size w5 v5 (acc ++ [x]) := by unfold OwC; rw [List.length_append, flatC_snoc]; exact O5
            have b6 := HB2.out.trans b5
            clear O5 b5 O2 hb2 L2
            go_wp2_with fail
            go_roundg (n - (k + 1))
            case measure => omega
            case rel => exact ⟨k + 1, _, acc ++ [x], rfl, by go_num, by omega, by omega, (by have := HAL.out; rw [List.length_append]; show acc.length + 1 ≤ _; omega), O6, b6, HAK⟩
    · obtain rfl : n = k := by omega
      have HF : Hid (acc = res) := Lib.hid (by have := HA.out; rw [drop_end (by rw [HL.out]; exact Nat.le_refl _)] at this; simpa [turned] using this)
      have HO : Hid (OwC w.heap.size wr u res) := Lib.hid (HF.out ▸ O)
      clear HF O
      go_wp2_with fail
      go_ret
      exact ⟨_, rfl, HO.out, b⟩

set_option maxRecDepth 100000 in
set_option maxHeartbeats 8000000 in
theorem rkinds_any (l : List Cr) (v : Value) (ss : List Sty) (sv : Value) (w : World) (hR : RwC w v l) (hS : Ss w sv ss) (hN : NdOk ss l) (hn : l.length ≤ 1048576) :
    Calls Tryd.prog 26 #[v, sv] w fun e w' => ∃ u, e = .returned u ∧ OwC w.heap.size w' u (l.map (kindOf (whF ss))) ∧ Below w.heap.size w w' := by
  have H1 := Lib.hid hR
  have HS := Lib.hid hS
  have HN := Lib.hid hN
  obtain ⟨W, hW⟩ : ∃ W, whF ss = W := ⟨_, rfl⟩
  have HW := Lib.hid hW
  obtain ⟨A, c, hv0⟩ := hR.form
  obtain ⟨n, hl⟩ : ∃ n, l.length = n := ⟨_, rfl⟩
  have HL := Lib.hid hl
  have HV0 := Lib.hid hv0
  rw [hl] at hn hv0
  obtain ⟨res, hres⟩ : ∃ r, l.map (kindOf (whF ss)) = r := ⟨_, rfl⟩
  rw [hres]
  have H0 : Hid ([] ++ (l.drop 0).map (kindOf W) = res) := Lib.hid (by rw [← hres, ← hW]; rfl)
  clear hR hl hres hS hN hW
  subst hv0
  go_enter Tryd.func26, Tryd.ntmps26
  go_wp2_with fail
  have O0 : OwC w.heap.size w (.slice none 0 0) [] := World.ownsRow_nil _ _ _ _
  go_loopg [5, 6] n (fun kx s5 s6 wr => ∃ (k : Nat) (u : Value) (acc : List Cr), u = s5 ∧ s6 = .int .i64 k ∧ k ≤ n ∧ kx = n - k ∧ acc.length ≤ k ∧ OwC w.heap.size wr u acc ∧ Below w.heap.size w wr ∧ Hid (acc ++ (l.drop k).map (kindOf W) = res))
  case atStart => exact ⟨0, _, [], rfl, rfl, by omega, by omega, by simp, O0, Below.refl _ _, H0⟩
  case round =>
    clear O0 H0
    obtain ⟨k, u, acc, rfl, rfl, hk, rfl, hal, O, b, HA⟩ := hrel
    by_cases hkm : k < n
    · have hkz : (k : Int) < n := by omega
      obtain ⟨x, hx⟩ := atR_of (l := l) (i := k) (by rw [HL.out]; exact hkm)
      obtain ⟨a1, capa1, o1, hv, _, ha1, hLa1⟩ := H1.out.get b hx
      rw [HL.out] at hv
      injection hv with hv1 hv2 hv3
      subst hv1 hv3
      have HAL := Lib.hid hal
      have HX := Lib.hid hx
      have HLX := Lib.hid hLa1
      have HO := Lib.hid O
      have HB := Lib.hid b
      have hbs := b.size
      obtain ⟨j, s, hj, hs⟩ := HN.out x (List.mem_of_getElem? hx)
      have HJ := Lib.hid hj
      have HSJ := Lib.hid hs
      have HSW : Hid (∀ X, Below wr.heap.size wr X → Ss X sv ss) := Lib.hid fun X h => HS.out.below (below_seq HB.out h)
      clear hv2 hx hLa1 O b hj hs
      obtain ⟨c1, hc1⟩ : ∃ b, wht W x = b := ⟨_, rfl⟩
      have HC1 := Lib.hid hc1
      have Cc1 : Hid (∀ X, Below wr.heap.size wr X → Calls Tryd.prog 54 #[.agg (chA x), sv] X fun e w' => e = .returned (.bool c1) ∧ Below X.heap.size X w') := Lib.hid fun X h => by have := rwht_any x ss sv X (HSW.out X h) j s HJ.out HSJ.out; rwa [HW.out, HC1.out] at this
      clear hc1
      have L1 := HLX.out
      go_wp2_with (first | (refine ldC rfl (.tmp 16) rfl _ rfl x L1 ?_) | (refine nwC rfl rfl 7 rfl rfl (.tmp 17) rfl rfl x (fun _ => rfl) (fun _ => rfl) ?_; intro w3 b3 B3) | (refine ldC rfl (.tmp 7) rfl _ rfl x B3.lies ?_))
      clear L1
      refine (Cc1.out _ b3).mono ?_
      rintro e u2 ⟨rfl, d2⟩
      have d4 := below_seq b3 d2
      have B4 := B3.keep (S := fun _ => False) (Mod.of_below d2) id
      cases c1 with
      | true =>
        have HT : kindOf W x = { x with kind := 1 } := by unfold kindOf; rw [if_pos HC1.out]
        have M0 := (Mod.setCell (S := fun k => k = wr.heap.size) (Mod.of_below (Below.refl _ (u2))) (p := ⟨wr.heap.size, 4, none⟩) (.inl rfl) (.int .u8 1)).below d4.size fun k hk => by omega
        have D0 := d4.trans M0
        have B0x := B4.set_ 4 (.int .u8 1)
        have s0 : u2.cell? ⟨wr.heap.size, 4, none⟩ = some (.int .u8 x.kind) := B4.cell 4
        have f0 := B4.frozen 4
        have BF : Blk (u2.setCell ⟨wr.heap.size, 4, none⟩ (.int .u8 1)) wr.heap.size 38 (chA ({ x with kind := 1 })) := B0x
        have HAK : Hid ((acc ++ [{ x with kind := 1 }]) ++ (l.drop (k + 1)).map (kindOf W) = res) := Lib.hid (by have := HA.out; rw [drop_at HX.out, List.map_cons] at this; rw [HT] at this; simpa using this)
        have O2 := HO.out.below D0
        have hb2 := HB.out.trans (D0.mono hbs)
        have L2 := BF.lies
        have hbs2 := hb2.size
        have HB2 := Lib.hid hb2
        clear HA BF M0 B0x
        go_wp2_with (first | (refine ldC rfl (.tmp 7) rfl _ rfl ({ x with kind := 1 }) L2 ?_) | (refine apC (o1 := ⟨some 42, _, _, _, _, _⟩) rfl (.tmp 41) rfl 42 rfl rfl (.tmp 40) rfl ({ x with kind := 1 }) rfl _ (fun _ => rfl) (fun _ => rfl) w.heap.size acc.length _ O2 (by omega) hbs2 ?_; intro u4 v5 w5 O5 b5; refine Mk.out ?_))
        constructor
        have O6 : OwC w.heap.size w5 v5 (acc ++ [{ x with kind := 1 }]) := by unfold OwC; rw [List.length_append, flatC_snoc]; exact O5
        have b6 := HB2.out.trans b5
        clear O5 b5 O2 hb2 L2
        go_wp2_with fail
        go_roundg (n - (k + 1))
        case measure => omega
        case rel => exact ⟨k + 1, _, acc ++ [{ x with kind := 1 }], rfl, by go_num, by omega, by omega, (by have := HAL.out; rw [List.length_append]; show acc.length + 1 ≤ _; omega), O6, b6, HAK⟩
      | false =>
        obtain ⟨c2, hc2⟩ : ∃ b, is x 9 = b := ⟨_, rfl⟩
        have HC2 := Lib.hid hc2
        have Cc2 := Lib.hid (ris_is x 9 c2 hc2)
        clear hc2
        go_wp2_with (first | (refine ldC rfl (.tmp 7) rfl _ rfl x B4.lies ?_))
        refine (Cc2.out _).mono ?_
        rintro e u4 ⟨rfl, ed6⟩
        have d6 := below_seq d4 ed6
        have B6 := B4.keep (S := fun _ => False) (Mod.of_below ed6) id
        cases c2 with
        | true =>
          have HT : kindOf W x = { x with kind := 4 } := by unfold kindOf; rw [if_neg (by rw [HC1.out]; simp), if_pos HC2.out]
          have M0 := (Mod.setCell (S := fun k => k = wr.heap.size) (Mod.of_below (Below.refl _ (u4))) (p := ⟨wr.heap.size, 4, none⟩) (.inl rfl) (.int .u8 4)).below d6.size fun k hk => by omega
          have D0 := d6.trans M0
          have B0x := B6.set_ 4 (.int .u8 4)
          have s0 : u4.cell? ⟨wr.heap.size, 4, none⟩ = some (.int .u8 x.kind) := B6.cell 4
          have f0 := B6.frozen 4
          have BF : Blk (u4.setCell ⟨wr.heap.size, 4, none⟩ (.int .u8 4)) wr.heap.size 38 (chA ({ x with kind := 4 })) := B0x
          have HAK : Hid ((acc ++ [{ x with kind := 4 }]) ++ (l.drop (k + 1)).map (kindOf W) = res) := Lib.hid (by have := HA.out; rw [drop_at HX.out, List.map_cons] at this; rw [HT] at this; simpa using this)
          have O2 := HO.out.below D0
          have hb2 := HB.out.trans (D0.mono hbs)
          have L2 := BF.lies
          have hbs2 := hb2.size
          have HB2 := Lib.hid hb2
          clear HA BF M0 B0x
          go_wp2_with (first | (refine ldC rfl (.tmp 7) rfl _ rfl ({ x with kind := 4 }) L2 ?_) | (refine apC (o1 := ⟨some 42, _, _, _, _, _⟩) rfl (.tmp 41) rfl 42 rfl rfl (.tmp 40) rfl ({ x with kind := 4 }) rfl _ (fun _ => rfl) (fun _ => rfl) w.heap.size acc.length _ O2 (by omega) hbs2 ?_; intro u4 v5 w5 O5 b5; refine Mk.out ?_))
          constructor
          have O6 : OwC w.heap.size w5 v5 (acc ++ [{ x with kind := 4 }]) := by unfold OwC; rw [List.length_append, flatC_snoc]; exact O5
          have b6 := HB2.out.trans b5
          clear O5 b5 O2 hb2 L2
          go_wp2_with fail
          go_roundg (n - (k + 1))
          case measure => omega
          case rel => exact ⟨k + 1, _, acc ++ [{ x with kind := 4 }], rfl, by go_num, by omega, by omega, (by have := HAL.out; rw [List.length_append]; show acc.length + 1 ≤ _; omega), O6, b6, HAK⟩
        | false =>
          obtain ⟨c3, hc3⟩ : ∃ b, is x 32 = b := ⟨_, rfl⟩
          have HC3 := Lib.hid hc3
          have Cc3 := Lib.hid (ris_is x 32 c3 hc3)
          clear hc3
          go_wp2_with (first | (refine ldC rfl (.tmp 7) rfl _ rfl x B6.lies ?_))
          refine (Cc3.out _).mono ?_
          rintro e u5 ⟨rfl, ed7⟩
          have d7 := below_seq d6 ed7
          have B7 := B6.keep (S := fun _ => False) (Mod.of_below ed7) id
          cases c3 with
          | true =>
            have hjq : (j : Int) < ss.length := by have := (List.getElem?_eq_some_iff.1 HSJ.out).1; omega
            obtain ⟨a3, cap3, o3, hv, _, ha3, hL3⟩ := (HSW.out _ d7).get (Below.refl _ _) HSJ.out
            obtain ⟨q, hq⟩ : ∃ q, ss.length = q := ⟨_, rfl⟩
            rw [hq] at hv hjq
            obtain ⟨z, hzz⟩ : ∃ z, s.a0 = z := ⟨_, rfl⟩
            have HZW : Hid (W x.node = z) := Lib.hid (by rw [← hzz, HJ.out, ← HW.out, whF_at HSJ.out])
            have qz : u5.cell? ⟨a3.block, o3, none⟩ = some (.int .u8 z) := by
              have := hL3 0 _ rfl
              rw [Addr.add_lit, Nat.add_zero] at this
              rw [this, ← hzz]
              rfl
            have qn : u5.cell? ⟨wr.heap.size, 1, none⟩ = some (.int .i64 (j : Nat)) := (B7.cell 1).trans (by show some (Value.int .i64 x.node) = _; rw [HJ.out])
            subst hv
            clear hL3 hzz hq
            by_cases hz3 : z = 3
            · subst hz3
              have HT : kindOf W x = { x with kind := 2 } := by unfold kindOf; rw [if_neg (by rw [HC1.out]; simp), if_neg (by rw [HC2.out]; simp), if_pos (by rw [HC3.out, HZW.out]; rfl)]
              have M0 := (Mod.setCell (S := fun k => k = wr.heap.size) (Mod.of_below (Below.refl _ (u5))) (p := ⟨wr.heap.size, 4, none⟩) (.inl rfl) (.int .u8 2)).below d7.size fun k hk => by omega
              have D0 := d7.trans M0
              have B0x := B7.set_ 4 (.int .u8 2)
              have s0 : u5.cell? ⟨wr.heap.size, 4, none⟩ = some (.int .u8 x.kind) := B7.cell 4
              have f0 := B7.frozen 4
              have BF : Blk (u5.setCell ⟨wr.heap.size, 4, none⟩ (.int .u8 2)) wr.heap.size 38 (chA ({ x with kind := 2 })) := B0x
              have HAK : Hid ((acc ++ [{ x with kind := 2 }]) ++ (l.drop (k + 1)).map (kindOf W) = res) := Lib.hid (by have := HA.out; rw [drop_at HX.out, List.map_cons] at this; rw [HT] at this; simpa using this)
              have O2 := HO.out.below D0
              have hb2 := HB.out.trans (D0.mono hbs)
              have L2 := BF.lies
              have hbs2 := hb2.size
              have HB2 := Lib.hid hb2
              clear HA BF M0 B0x
              go_wp2_with (first | (refine ldC rfl (.tmp 7) rfl _ rfl ({ x with kind := 2 }) L2 ?_) | (refine apC (o1 := ⟨some 42, _, _, _, _, _⟩) rfl (.tmp 41) rfl 42 rfl rfl (.tmp 40) rfl ({ x with kind := 2 }) rfl _ (fun _ => rfl) (fun _ => rfl) w.heap.size acc.length _ O2 (by omega) hbs2 ?_; intro u4 v5 w5 O5 b5; refine Mk.out ?_))
              constructor
              have O6 : OwC w.heap.size w5 v5 (acc ++ [{ x with kind := 2 }]) := by unfold OwC; rw [List.length_append, flatC_snoc]; exact O5
              have b6 := HB2.out.trans b5
              clear O5 b5 O2 hb2 L2
              go_wp2_with fail
              go_roundg (n - (k + 1))
              case measure => omega
              case rel => exact ⟨k + 1, _, acc ++ [{ x with kind := 2 }], rfl, by go_num, by omega, by omega, (by have := HAL.out; rw [List.length_append]; show acc.length + 1 ≤ _; omega), O6, b6, HAK⟩
            · have ez : (z == 3) = false := by simpa using hz3
              have HT : kindOf W x = { x with kind := 3 } := by unfold kindOf; rw [if_neg (by rw [HC1.out]; simp), if_neg (by rw [HC2.out]; simp), if_neg (by rw [HC3.out, HZW.out]; simp [hz3]), if_pos HC3.out]
              go_wp2_with (first | (refine ldC rfl (.tmp 7) rfl _ rfl x B7.lies ?_))
              refine (Cc3.out _).mono ?_
              rintro e u6 ⟨rfl, e8⟩
              have d8 := below_seq d7 e8
              have B8 := B7.keep (S := fun _ => False) (Mod.of_below e8) id
              have M0 := (Mod.setCell (S := fun k => k = wr.heap.size) (Mod.of_below (Below.refl _ (u6))) (p := ⟨wr.heap.size, 4, none⟩) (.inl rfl) (.int .u8 3)).below d8.size fun k hk => by omega
              have D0 := d8.trans M0
              have B0x := B8.set_ 4 (.int .u8 3)
              have s0 : u6.cell? ⟨wr.heap.size, 4, none⟩ = some (.int .u8 x.kind) := B8.cell 4
              have f0 := B8.frozen 4
              have BF : Blk (u6.setCell ⟨wr.heap.size, 4, none⟩ (.int .u8 3)) wr.heap.size 38 (chA ({ x with kind := 3 })) := B0x
              have HAK : Hid ((acc ++ [{ x with kind := 3 }]) ++ (l.drop (k + 1)).map (kindOf W) = res) := Lib.hid (by have := HA.out; rw [drop_at HX.out, List.map_cons] at this; rw [HT] at this; simpa using this)
              have O2 := HO.out.below D0
              have hb2 := HB.out.trans (D0.mono hbs)
              have L2 := BF.lies
              have hbs2 := hb2.size
              have HB2 := Lib.hid hb2
              clear HA BF M0 B0x
              go_wp2_with (first | (refine ldC rfl (.tmp 7) rfl _ rfl ({ x with kind := 3 }) L2 ?_) | (refine apC (o1 := ⟨some 42, _, _, _, _, _⟩) rfl (.tmp 41) rfl 42 rfl rfl (.tmp 40) rfl ({ x with kind := 3 }) rfl _ (fun _ => rfl) (fun _ => rfl) w.heap.size acc.length _ O2 (by omega) hbs2 ?_; intro u4 v5 w5 O5 b5; refine Mk.out ?_))
              constructor
              have O6 : OwC w.heap.size w5 v5 (acc ++ [{ x with kind := 3 }]) := by unfold OwC; rw [List.length_append, flatC_snoc]; exact O5
              have b6 := HB2.out.trans b5
              clear O5 b5 O2 hb2 L2
              go_wp2_with fail
              go_roundg (n - (k + 1))
              case measure => omega
              case rel => exact ⟨k + 1, _, acc ++ [{ x with kind := 3 }], rfl, by go_num, by omega, by omega, (by have := HAL.out; rw [List.length_append]; show acc.length + 1 ≤ _; omega), O6, b6, HAK⟩
          | false =>
            have HT : kindOf W x = x := by unfold kindOf; rw [if_neg (by rw [HC1.out]; simp), if_neg (by rw [HC2.out]; simp), if_neg (by rw [HC3.out]; simp), if_neg (by rw [HC3.out]; simp)]
            go_wp2_with (first | (refine ldC rfl (.tmp 7) rfl _ rfl x B7.lies ?_))
            refine (Cc3.out _).mono ?_
            rintro e u6 ⟨rfl, e8⟩
            have d8 := below_seq d7 e8
            have B8 := B7.keep (S := fun _ => False) (Mod.of_below e8) id
            have BF : Blk u6 wr.heap.size 38 (chA (x)) := B8
            have HAK : Hid ((acc ++ [x]) ++ (l.drop (k + 1)).map (kindOf W) = res) := Lib.hid (by have := HA.out; rw [drop_at HX.out, List.map_cons] at this; rw [HT] at this; simpa using this)
            have O2 := HO.out.below d8
            have hb2 := HB.out.trans (d8.mono hbs)
            have L2 := BF.lies
            have hbs2 := hb2.size
            have HB2 := Lib.hid hb2
            clear HA BF 
            go_wp2_with (first | (refine ldC rfl (.tmp 7) rfl _ rfl (x) L2 ?_) | (refine apC (o1 := ⟨some 42, _, _, _, _, _⟩) rfl (.tmp 41) rfl 42 rfl rfl (.tmp 40) rfl (x) rfl _ (fun _ => rfl) (fun _ => rfl) w.heap.size acc.length _ O2 (by omega) hbs2 ?_; intro u4 v5 w5 O5 b5; refine Mk.out ?_))
            constructor
            have O6 : OwC w.heap.size w5 v5 (acc ++ [x]) := by unfold OwC; rw [List.length_append, flatC_snoc]; exact O5
            have b6 := HB2.out.trans b5
            clear O5 b5 O2 hb2 L2
            go_wp2_with fail
            go_roundg (n - (k + 1))
            case measure => omega
            case rel => exact ⟨k + 1, _, acc ++ [x], rfl, by go_num, by omega, by omega, (by have := HAL.out; rw [List.length_append]; show acc.length + 1 ≤ _; omega), O6, b6, HAK⟩
    · obtain rfl : n = k := by omega
      have HF : Hid (acc = res) := Lib.hid (by have := HA.out; rw [drop_end (by rw [HL.out]; exact Nat.le_refl _)] at this; simpa [kindOf] using this)
      have HO : Hid (OwC w.heap.size wr u res) := Lib.hid (HF.out ▸ O)
      clear HF O
      go_wp2_with fail
      go_ret
      exact ⟨_, rfl, HO.out, b⟩

end Go.Proofs.YtejcfhfmdijimaaDoor
