/- Contracts of the document's answers for layer 8 (package stickfulref08): beside, hard, around, several. Conditions: the lists lie where the slices say, at most 1048576 elements; each node has a style. -/
import Derived.Test.YtejcfhfmdijimaaDoorWlA
namespace Go.Proofs.YtejcfhfmdijimaaDoor
open Go.ChangeShapes Go.WideShapes Go.ChangeAt Go.RowKit
open Wh


set_option maxRecDepth 100000 in
set_option maxHeartbeats 8000000 in
theorem rbeside_any (l : List Cr) (v : Value) (ss : List Sty) (sv : Value) (i : Nat) (w : World) (hR : RwC w v l) (hS : Ss w sv ss) (hN : NdOk ss l) (hn : l.length ≤ 1048576) (hi : i < l.length) :
    Calls Tryd.prog 60 #[v, sv, .int .i64 (i : Nat)] w fun e w' => e = .returned (.bool (bA (whF ss) l i || nextEnd (whF ss) (l.drop (i + 1)))) ∧ Below w.heap.size w w' := by
  have H1 := Lib.hid hR
  have HS := Lib.hid hS
  have HN := Lib.hid hN
  obtain ⟨W, hW⟩ : ∃ W, whF ss = W := ⟨_, rfl⟩
  have HW := Lib.hid hW
  rw [hW]
  obtain ⟨A, c, hv0⟩ := hR.form
  obtain ⟨n, hl⟩ : ∃ n, l.length = n := ⟨_, rfl⟩
  have HL := Lib.hid hl
  rw [hl] at hn hi hv0
  have hval : (bA W l i || nextEnd W (l.drop (i + 1))) = (nextEnd W (l.take i).reverse || nextEnd W (l.drop (i + 1))) := rfl
  rw [hval]
  obtain ⟨eA, hA⟩ : ∃ b, nextEnd W (l.take i).reverse = b := ⟨_, rfl⟩
  obtain ⟨eB, hB⟩ : ∃ b, nextEnd W (l.drop (i + 1)) = b := ⟨_, rfl⟩
  rw [hA, hB]
  have HA := Lib.hid hA
  have HB := Lib.hid hB
  have HSW : Hid (∀ X, Below w.heap.size w X → Ss X sv ss) := Lib.hid fun X h => HS.out.below h
  have hiz : (i : Int) < n := by omega
  clear hR hS hN hW hl hval hA hB
  subst hv0
  go_enter Tryd.func60, Tryd.ntmps60
  go_wp2_with fail
  go_loopg [7] (i) (fun kx s7 wr => ∃ c : Int, s7 = .int .i64 c ∧ -1 ≤ c ∧ c < n ∧ kx = (c + 1).toNat ∧ Below w.heap.size w wr ∧ Hid (nextEnd W (l.take (c + 1).toNat).reverse = eA))
  case atStart => exact ⟨(i : Int) - 1, rfl, by omega, by omega, by omega, Below.refl _ _, Lib.hid (by rw [← HA.out, show ((i : Int) - 1 + 1 : Int).toNat = i by omega])⟩
  case round =>
    clear HA
    obtain ⟨c, rfl, hc1, hc2, rfl, b, HE⟩ := hrel
    by_cases h0 : 0 ≤ c
    · obtain ⟨q, rfl⟩ : ∃ q : Nat, c = q := ⟨c.toNat, by omega⟩
      obtain ⟨y, hy⟩ := atR_of (l := l) (i := q) (by rw [HL.out]; omega)
      obtain ⟨a1, capa1, o1, hv, _, ha1, hLa1⟩ := H1.out.get b hy
      rw [HL.out] at hv
      injection hv with hv1 hv2 hv3
      subst hv1 hv3
      obtain ⟨j1, s1, hj1, hs1⟩ := HN.out y (List.mem_of_getElem? hy)
      have HLY : Hid (∀ X, Below w.heap.size w X → Lies X ⟨a1.block, o1, none⟩ (chA y)) := Lib.hid fun X h => by
          obtain ⟨a6, cap6, o6, hv6, _, ha6, hL6⟩ := H1.out.get h hy
          rw [HL.out] at hv6
          injection hv6 with e1 e2 e3
          injection e1 with e1
          subst e1
          rw [ha1] at ha6
          injection ha6 with _ e4
          subst e4
          exact hL6
      obtain ⟨c1, hc3⟩ : ∃ b, wht W y = b := ⟨_, rfl⟩
      have CP : Hid (∀ X, Below w.heap.size w X → Calls Tryd.prog 54 #[.agg (chA y), sv] X fun e w' => e = .returned (.bool c1) ∧ Below X.heap.size X w') := Lib.hid fun X h => by have := rwht_any y ss sv X (HSW.out X h) j1 s1 hj1 hs1; rwa [HW.out, hc3] at this
      have HE1 : Hid (nextEnd W (l.take (q + 1)).reverse = eA) := Lib.hid (by have := HE.out; rwa [show ((q : Int) + 1).toNat = q + 1 by omega] at this)
      have HSTP := Lib.hid ((nextEnd_back (W := W) hy).symm.trans HE1.out)
      have HC1 := Lib.hid hc3
      have L1 := HLY.out _ b
      clear hv2 hLa1 hj1 hs1 hc3 HE HE1 hy
      go_wp2_with (first | (refine ldCIf (by kernel_rfl) (.tmp 18) rfl _ rfl y L1 ?_))
      refine (CP.out _ b).mono ?_
      rintro e u5 ⟨rfl, d5⟩
      have b5 := below_seq b d5
      clear L1 CP
      cases c1 with
      | true =>
        have HE3 : Hid (nextEnd W (l.take ((q : Int) - 1 + 1).toNat).reverse = eA) := Lib.hid (by have := HSTP.out; rw [HC1.out] at this; rw [show ((q : Int) - 1 + 1).toNat = q by omega]; exact this)
        clear HSTP
        go_wp2_with fail
        go_roundg q
        case measure => omega
        case rel => exact ⟨(q : Int) - 1, rfl, by omega, by omega, by omega, b5, HE3⟩
      | false =>
        have HEY : Hid (endc y = eA) := Lib.hid (by have := HSTP.out; rw [HC1.out] at this; exact this)
        clear HSTP b d5
        have HB0 := Lib.hid b5
        go_wp2_with fail
        go_loopg [8] (n - ((i + 1))) (fun kx s8 wr => ∃ m : Nat, s8 = .int .i64 m ∧ m ≤ n ∧ kx = n - m ∧ Below w.heap.size w wr ∧ Hid (nextEnd W (l.drop m) = eB))
        case atStart => exact ⟨(i + 1), by go_num, by omega, rfl, HB0.out, HB⟩
        case round =>
          clear HB
          obtain ⟨m, rfl, hm, rfl, b9, HE2⟩ := hrel
          by_cases hmn : m < n
          · have hmz : (m : Int) < n := by omega
            obtain ⟨z, hz⟩ := atR_of (l := l) (i := m) (by rw [HL.out]; exact hmn)
            obtain ⟨a5, capa5, o5, hv, _, ha5, hLa5⟩ := H1.out.get b9 hz
            rw [HL.out] at hv
            injection hv with hv1 hv2 hv3
            injection hv1 with hv1
            subst hv1
            obtain ⟨j5, s5, hj5, hs5⟩ := HN.out z (List.mem_of_getElem? hz)
            have HLZ : Hid (∀ X, Below w.heap.size w X → Lies X ⟨a1.block, o5, none⟩ (chA z)) := Lib.hid fun X h => by
                obtain ⟨a6, cap6, o6, hv6, _, ha6, hL6⟩ := H1.out.get h hz
                rw [HL.out] at hv6
                injection hv6 with e1 e2 e3
                injection e1 with e1
                subst e1
                rw [ha5] at ha6
                injection ha6 with _ e4
                subst e4
                exact hL6
            obtain ⟨c2, hc2⟩ : ∃ b, wht W z = b := ⟨_, rfl⟩
            have CP : Hid (∀ X, Below w.heap.size w X → Calls Tryd.prog 54 #[.agg (chA z), sv] X fun e w' => e = .returned (.bool c2) ∧ Below X.heap.size X w') := Lib.hid fun X h => by have := rwht_any z ss sv X (HSW.out X h) j5 s5 hj5 hs5; rwa [HW.out, hc2] at this
            have HSTP := Lib.hid ((nextEnd_ahead (W := W) hz).symm.trans HE2.out)
            have HC2 := Lib.hid hc2
            have L5 := HLZ.out _ b9
            clear hv2 hv3 hLa5 hj5 hs5 hc2 HE2 hz
            go_wp2_with (first | (refine ldCIf (by kernel_rfl) (.tmp 32) rfl _ rfl z L5 ?_))
            refine (CP.out _ b9).mono ?_
            rintro e u5 ⟨rfl, d5⟩
            have b5 := below_seq b9 d5
            clear L5 CP
            cases c2 with
            | true =>
              have HE3 : Hid (nextEnd W (l.drop (m + 1)) = eB) := Lib.hid (by have := HSTP.out; rw [HC2.out] at this; exact this)
              clear HSTP
              go_wp2_with fail
              go_roundg (n - (m + 1))
              case measure => omega
              case rel => exact ⟨m + 1, by go_num, by omega, by omega, b5, HE3⟩
            | false =>
              have HEZ : Hid (endc z = eB) := Lib.hid (by have := HSTP.out; rw [HC2.out] at this; exact this)
              clear HSTP
              have L3 := HLY.out _ b5
              have CY := Lib.hid (rend_is y eA HEY.out)
              go_wp2_with (first | (refine ldCIf (by kernel_rfl) (.tmp 44) rfl _ rfl y L3 ?_))
              refine (CY.out _).mono ?_
              rintro e u6 ⟨rfl, d6⟩
              have b6 := below_seq b5 d6
              clear L3
              cases eA with
              | true =>
                go_wp2_with fail
                go_ret
                exact ⟨retb (by simp), b6⟩
              | false =>
                have L4 := HLZ.out _ b6
                have CZ := Lib.hid (rend_is z eB HEZ.out)
                go_wp2_with (first | (refine ldCIf (by kernel_rfl) (.tmp 56) rfl _ rfl z L4 ?_))
                refine (CZ.out _).mono ?_
                rintro e u7 ⟨rfl, d7⟩
                go_wp2_with fail
                go_ret
                exact ⟨retb (by simp), below_seq b6 d7⟩
          · obtain rfl : n = m := by omega
            have HEZF : Hid (false = eB) := Lib.hid (by have := HE2.out; rw [drop_end (by rw [HL.out]; exact Nat.le_refl _)] at this; exact this)
            clear HE2
            obtain rfl := HEZF.out
            have L3 := HLY.out _ b9
            have CY := Lib.hid (rend_is y eA HEY.out)
            go_wp2_with (first | (refine ldCIf (by kernel_rfl) (.tmp 44) rfl _ rfl y L3 ?_))
            refine (CY.out _).mono ?_
            rintro e u6 ⟨rfl, d6⟩
            have b6 := below_seq b9 d6
            clear L3
            cases eA with
            | true =>
              go_wp2_with fail
              go_ret
              exact ⟨retb (by simp), b6⟩
            | false =>
              go_wp2_with fail
              go_ret
              exact ⟨retb (by simp), b6⟩
    · obtain rfl : c = -1 := by omega
      have HEYF : Hid (false = eA) := Lib.hid (by have := HE.out; exact this)
      clear HE
      have HB0 := Lib.hid b
      go_wp2_with fail
      go_loopg [8] (n - ((i + 1))) (fun kx s8 wr => ∃ m : Nat, s8 = .int .i64 m ∧ m ≤ n ∧ kx = n - m ∧ Below w.heap.size w wr ∧ Hid (nextEnd W (l.drop m) = eB))
      case atStart => exact ⟨(i + 1), by go_num, by omega, rfl, HB0.out, HB⟩
      case round =>
        clear HB
        obtain ⟨m, rfl, hm, rfl, b9, HE2⟩ := hrel
        by_cases hmn : m < n
        · have hmz : (m : Int) < n := by omega
          obtain ⟨z, hz⟩ := atR_of (l := l) (i := m) (by rw [HL.out]; exact hmn)
          obtain ⟨a5, capa5, o5, hv, _, ha5, hLa5⟩ := H1.out.get b9 hz
          rw [HL.out] at hv
          injection hv with hv1 hv2 hv3
          skip
          subst hv1 hv3
          obtain ⟨j5, s5, hj5, hs5⟩ := HN.out z (List.mem_of_getElem? hz)
          have HLZ : Hid (∀ X, Below w.heap.size w X → Lies X ⟨a5.block, o5, none⟩ (chA z)) := Lib.hid fun X h => by
              obtain ⟨a6, cap6, o6, hv6, _, ha6, hL6⟩ := H1.out.get h hz
              rw [HL.out] at hv6
              injection hv6 with e1 e2 e3
              injection e1 with e1
              subst e1
              rw [ha5] at ha6
              injection ha6 with _ e4
              subst e4
              exact hL6
          obtain ⟨c2, hc2⟩ : ∃ b, wht W z = b := ⟨_, rfl⟩
          have CP : Hid (∀ X, Below w.heap.size w X → Calls Tryd.prog 54 #[.agg (chA z), sv] X fun e w' => e = .returned (.bool c2) ∧ Below X.heap.size X w') := Lib.hid fun X h => by have := rwht_any z ss sv X (HSW.out X h) j5 s5 hj5 hs5; rwa [HW.out, hc2] at this
          have HSTP := Lib.hid ((nextEnd_ahead (W := W) hz).symm.trans HE2.out)
          have HC2 := Lib.hid hc2
          have L5 := HLZ.out _ b9
          clear hv2 hLa5 hj5 hs5 hc2 HE2 hz
          go_wp2_with (first | (refine ldCIf (by kernel_rfl) (.tmp 32) rfl _ rfl z L5 ?_))
          refine (CP.out _ b9).mono ?_
          rintro e u5 ⟨rfl, d5⟩
          have b5 := below_seq b9 d5
          clear L5 CP
          cases c2 with
          | true =>
            have HE3 : Hid (nextEnd W (l.drop (m + 1)) = eB) := Lib.hid (by have := HSTP.out; rw [HC2.out] at this; exact this)
            clear HSTP
            go_wp2_with fail
            go_roundg (n - (m + 1))
            case measure => omega
            case rel => exact ⟨m + 1, by go_num, by omega, by omega, b5, HE3⟩
          | false =>
            have HEZ : Hid (endc z = eB) := Lib.hid (by have := HSTP.out; rw [HC2.out] at this; exact this)
            clear HSTP
            obtain rfl := HEYF.out
            have L4 := HLZ.out _ b5
            have CZ := Lib.hid (rend_is z eB HEZ.out)
            go_wp2_with (first | (refine ldCIf (by kernel_rfl) (.tmp 56) rfl _ rfl z L4 ?_))
            refine (CZ.out _).mono ?_
            rintro e u7 ⟨rfl, d7⟩
            go_wp2_with fail
            go_ret
            exact ⟨retb (by simp), below_seq b5 d7⟩
        · obtain rfl : n = m := by omega
          have HEZF : Hid (false = eB) := Lib.hid (by have := HE2.out; rw [drop_end (by rw [HL.out]; exact Nat.le_refl _)] at this; exact this)
          clear HE2
          obtain rfl := HEYF.out
          obtain rfl := HEZF.out
          go_wp2_with fail
          go_ret
          exact ⟨retb (by simp), b9⟩

set_option maxRecDepth 100000 in
set_option maxHeartbeats 8000000 in
theorem rhard_any (l : List Cr) (v : Value) (ss : List Sty) (sv : Value) (i : Nat) (w : World) (hR : RwC w v l) (hS : Ss w sv ss) (hN : NdOk ss l) (hn : l.length ≤ 1048576) (hi : i < l.length) :
    Calls Tryd.prog 59 #[v, sv, .int .i64 (i : Nat)] w fun e w' => e = .returned (.bool (nextHard (whF ss) (l.take (i + 1)).reverse || nextHard (whF ss) (l.drop i))) ∧ Below w.heap.size w w' := by
  have H1 := Lib.hid hR
  have HS := Lib.hid hS
  have HN := Lib.hid hN
  obtain ⟨W, hW⟩ : ∃ W, whF ss = W := ⟨_, rfl⟩
  have HW := Lib.hid hW
  rw [hW]
  obtain ⟨A, c, hv0⟩ := hR.form
  obtain ⟨n, hl⟩ : ∃ n, l.length = n := ⟨_, rfl⟩
  have HL := Lib.hid hl
  rw [hl] at hn hi hv0
  have hval : (nextHard W (l.take (i + 1)).reverse || nextHard W (l.drop i)) = (nextHard W (l.take (i + 1)).reverse || nextHard W (l.drop i)) := rfl
  rw [hval]
  obtain ⟨eA, hA⟩ : ∃ b, nextHard W (l.take (i + 1)).reverse = b := ⟨_, rfl⟩
  obtain ⟨eB, hB⟩ : ∃ b, nextHard W (l.drop i) = b := ⟨_, rfl⟩
  rw [hA, hB]
  have HA := Lib.hid hA
  have HB := Lib.hid hB
  have HSW : Hid (∀ X, Below w.heap.size w X → Ss X sv ss) := Lib.hid fun X h => HS.out.below h
  have hiz : (i : Int) < n := by omega
  clear hR hS hN hW hl hval hA hB
  subst hv0
  go_enter Tryd.func59, Tryd.ntmps59
  go_wp2_with fail
  go_loopg [7] ((i + 1)) (fun kx s7 wr => ∃ c : Int, s7 = .int .i64 c ∧ -1 ≤ c ∧ c < n ∧ kx = (c + 1).toNat ∧ Below w.heap.size w wr ∧ Hid (nextHard W (l.take (c + 1).toNat).reverse = eA))
  case atStart => exact ⟨(i : Int), rfl, by omega, by omega, by omega, Below.refl _ _, Lib.hid (by rw [← HA.out, show ((i : Int) + 1 : Int).toNat = (i + 1) by omega])⟩
  case round =>
    clear HA
    obtain ⟨c, rfl, hc1, hc2, rfl, b, HE⟩ := hrel
    by_cases h0 : 0 ≤ c
    · obtain ⟨q, rfl⟩ : ∃ q : Nat, c = q := ⟨c.toNat, by omega⟩
      obtain ⟨y, hy⟩ := atR_of (l := l) (i := q) (by rw [HL.out]; omega)
      obtain ⟨a1, capa1, o1, hv, _, ha1, hLa1⟩ := H1.out.get b hy
      rw [HL.out] at hv
      injection hv with hv1 hv2 hv3
      subst hv1 hv3
      obtain ⟨j1, s1, hj1, hs1⟩ := HN.out y (List.mem_of_getElem? hy)
      have HLY : Hid (∀ X, Below w.heap.size w X → Lies X ⟨a1.block, o1, none⟩ (chA y)) := Lib.hid fun X h => by
          obtain ⟨a6, cap6, o6, hv6, _, ha6, hL6⟩ := H1.out.get h hy
          rw [HL.out] at hv6
          injection hv6 with e1 e2 e3
          injection e1 with e1
          subst e1
          rw [ha1] at ha6
          injection ha6 with _ e4
          subst e4
          exact hL6
      obtain ⟨c1, hc3⟩ : ∃ b, soft W y = b := ⟨_, rfl⟩
      have CP : Hid (∀ X, Below w.heap.size w X → Calls Tryd.prog 56 #[.agg (chA y), sv] X fun e w' => e = .returned (.bool c1) ∧ Below X.heap.size X w') := Lib.hid fun X h => by have := rsoft_any y ss sv X (HSW.out X h) j1 s1 hj1 hs1; rwa [HW.out, hc3] at this
      have HE1 : Hid (nextHard W (l.take (q + 1)).reverse = eA) := Lib.hid (by have := HE.out; rwa [show ((q : Int) + 1).toNat = q + 1 by omega] at this)
      have HSTP := Lib.hid ((nextHard_back (W := W) hy).symm.trans HE1.out)
      have HC1 := Lib.hid hc3
      have L1 := HLY.out _ b
      clear hv2 hLa1 hj1 hs1 hc3 HE HE1 hy
      go_wp2_with (first | (refine ldCIf (by kernel_rfl) (.tmp 16) rfl _ rfl y L1 ?_))
      refine (CP.out _ b).mono ?_
      rintro e u5 ⟨rfl, d5⟩
      have b5 := below_seq b d5
      clear L1 CP
      cases c1 with
      | true =>
        have HE3 : Hid (nextHard W (l.take ((q : Int) - 1 + 1).toNat).reverse = eA) := Lib.hid (by have := HSTP.out; rw [HC1.out] at this; rw [show ((q : Int) - 1 + 1).toNat = q by omega]; exact this)
        clear HSTP
        go_wp2_with fail
        go_roundg q
        case measure => omega
        case rel => exact ⟨(q : Int) - 1, rfl, by omega, by omega, by omega, b5, HE3⟩
      | false =>
        have HEY : Hid (endc y = eA) := Lib.hid (by have := HSTP.out; rw [HC1.out] at this; exact this)
        clear HSTP b d5
        have HB0 := Lib.hid b5
        go_wp2_with fail
        go_loopg [8] (n - (i)) (fun kx s8 wr => ∃ m : Nat, s8 = .int .i64 m ∧ m ≤ n ∧ kx = n - m ∧ Below w.heap.size w wr ∧ Hid (nextHard W (l.drop m) = eB))
        case atStart => exact ⟨i, by go_num, by omega, rfl, HB0.out, HB⟩
        case round =>
          clear HB
          obtain ⟨m, rfl, hm, rfl, b9, HE2⟩ := hrel
          by_cases hmn : m < n
          · have hmz : (m : Int) < n := by omega
            obtain ⟨z, hz⟩ := atR_of (l := l) (i := m) (by rw [HL.out]; exact hmn)
            obtain ⟨a5, capa5, o5, hv, _, ha5, hLa5⟩ := H1.out.get b9 hz
            rw [HL.out] at hv
            injection hv with hv1 hv2 hv3
            injection hv1 with hv1
            subst hv1
            obtain ⟨j5, s5, hj5, hs5⟩ := HN.out z (List.mem_of_getElem? hz)
            have HLZ : Hid (∀ X, Below w.heap.size w X → Lies X ⟨a1.block, o5, none⟩ (chA z)) := Lib.hid fun X h => by
                obtain ⟨a6, cap6, o6, hv6, _, ha6, hL6⟩ := H1.out.get h hz
                rw [HL.out] at hv6
                injection hv6 with e1 e2 e3
                injection e1 with e1
                subst e1
                rw [ha5] at ha6
                injection ha6 with _ e4
                subst e4
                exact hL6
            obtain ⟨c2, hc2⟩ : ∃ b, soft W z = b := ⟨_, rfl⟩
            have CP : Hid (∀ X, Below w.heap.size w X → Calls Tryd.prog 56 #[.agg (chA z), sv] X fun e w' => e = .returned (.bool c2) ∧ Below X.heap.size X w') := Lib.hid fun X h => by have := rsoft_any z ss sv X (HSW.out X h) j5 s5 hj5 hs5; rwa [HW.out, hc2] at this
            have HSTP := Lib.hid ((nextHard_ahead (W := W) hz).symm.trans HE2.out)
            have HC2 := Lib.hid hc2
            have L5 := HLZ.out _ b9
            clear hv2 hv3 hLa5 hj5 hs5 hc2 HE2 hz
            go_wp2_with (first | (refine ldCIf (by kernel_rfl) (.tmp 30) rfl _ rfl z L5 ?_))
            refine (CP.out _ b9).mono ?_
            rintro e u5 ⟨rfl, d5⟩
            have b5 := below_seq b9 d5
            clear L5 CP
            cases c2 with
            | true =>
              have HE3 : Hid (nextHard W (l.drop (m + 1)) = eB) := Lib.hid (by have := HSTP.out; rw [HC2.out] at this; exact this)
              clear HSTP
              go_wp2_with fail
              go_roundg (n - (m + 1))
              case measure => omega
              case rel => exact ⟨m + 1, by go_num, by omega, by omega, b5, HE3⟩
            | false =>
              have HEZ : Hid (endc z = eB) := Lib.hid (by have := HSTP.out; rw [HC2.out] at this; exact this)
              clear HSTP
              have L3 := HLY.out _ b5
              have CY := Lib.hid (rend_is y eA HEY.out)
              go_wp2_with (first | (refine ldCIf (by kernel_rfl) (.tmp 42) rfl _ rfl y L3 ?_))
              refine (CY.out _).mono ?_
              rintro e u6 ⟨rfl, d6⟩
              have b6 := below_seq b5 d6
              clear L3
              cases eA with
              | true =>
                go_wp2_with fail
                go_ret
                exact ⟨retb (by simp), b6⟩
              | false =>
                have L4 := HLZ.out _ b6
                have CZ := Lib.hid (rend_is z eB HEZ.out)
                go_wp2_with (first | (refine ldCIf (by kernel_rfl) (.tmp 54) rfl _ rfl z L4 ?_))
                refine (CZ.out _).mono ?_
                rintro e u7 ⟨rfl, d7⟩
                go_wp2_with fail
                go_ret
                exact ⟨retb (by simp), below_seq b6 d7⟩
          · obtain rfl : n = m := by omega
            have HEZF : Hid (false = eB) := Lib.hid (by have := HE2.out; rw [drop_end (by rw [HL.out]; exact Nat.le_refl _)] at this; exact this)
            clear HE2
            obtain rfl := HEZF.out
            have L3 := HLY.out _ b9
            have CY := Lib.hid (rend_is y eA HEY.out)
            go_wp2_with (first | (refine ldCIf (by kernel_rfl) (.tmp 42) rfl _ rfl y L3 ?_))
            refine (CY.out _).mono ?_
            rintro e u6 ⟨rfl, d6⟩
            have b6 := below_seq b9 d6
            clear L3
            cases eA with
            | true =>
              go_wp2_with fail
              go_ret
              exact ⟨retb (by simp), b6⟩
            | false =>
              go_wp2_with fail
              go_ret
              exact ⟨retb (by simp), b6⟩
    · obtain rfl : c = -1 := by omega
      have HEYF : Hid (false = eA) := Lib.hid (by have := HE.out; exact this)
      clear HE
      have HB0 := Lib.hid b
      go_wp2_with fail
      go_loopg [8] (n - (i)) (fun kx s8 wr => ∃ m : Nat, s8 = .int .i64 m ∧ m ≤ n ∧ kx = n - m ∧ Below w.heap.size w wr ∧ Hid (nextHard W (l.drop m) = eB))
      case atStart => exact ⟨i, by go_num, by omega, rfl, HB0.out, HB⟩
      case round =>
        clear HB
        obtain ⟨m, rfl, hm, rfl, b9, HE2⟩ := hrel
        by_cases hmn : m < n
        · have hmz : (m : Int) < n := by omega
          obtain ⟨z, hz⟩ := atR_of (l := l) (i := m) (by rw [HL.out]; exact hmn)
          obtain ⟨a5, capa5, o5, hv, _, ha5, hLa5⟩ := H1.out.get b9 hz
          rw [HL.out] at hv
          injection hv with hv1 hv2 hv3
          skip
          subst hv1 hv3
          obtain ⟨j5, s5, hj5, hs5⟩ := HN.out z (List.mem_of_getElem? hz)
          have HLZ : Hid (∀ X, Below w.heap.size w X → Lies X ⟨a5.block, o5, none⟩ (chA z)) := Lib.hid fun X h => by
              obtain ⟨a6, cap6, o6, hv6, _, ha6, hL6⟩ := H1.out.get h hz
              rw [HL.out] at hv6
              injection hv6 with e1 e2 e3
              injection e1 with e1
              subst e1
              rw [ha5] at ha6
              injection ha6 with _ e4
              subst e4
              exact hL6
          obtain ⟨c2, hc2⟩ : ∃ b, soft W z = b := ⟨_, rfl⟩
          have CP : Hid (∀ X, Below w.heap.size w X → Calls Tryd.prog 56 #[.agg (chA z), sv] X fun e w' => e = .returned (.bool c2) ∧ Below X.heap.size X w') := Lib.hid fun X h => by have := rsoft_any z ss sv X (HSW.out X h) j5 s5 hj5 hs5; rwa [HW.out, hc2] at this
          have HSTP := Lib.hid ((nextHard_ahead (W := W) hz).symm.trans HE2.out)
          have HC2 := Lib.hid hc2
          have L5 := HLZ.out _ b9
          clear hv2 hLa5 hj5 hs5 hc2 HE2 hz
          go_wp2_with (first | (refine ldCIf (by kernel_rfl) (.tmp 30) rfl _ rfl z L5 ?_))
          refine (CP.out _ b9).mono ?_
          rintro e u5 ⟨rfl, d5⟩
          have b5 := below_seq b9 d5
          clear L5 CP
          cases c2 with
          | true =>
            have HE3 : Hid (nextHard W (l.drop (m + 1)) = eB) := Lib.hid (by have := HSTP.out; rw [HC2.out] at this; exact this)
            clear HSTP
            go_wp2_with fail
            go_roundg (n - (m + 1))
            case measure => omega
            case rel => exact ⟨m + 1, by go_num, by omega, by omega, b5, HE3⟩
          | false =>
            have HEZ : Hid (endc z = eB) := Lib.hid (by have := HSTP.out; rw [HC2.out] at this; exact this)
            clear HSTP
            obtain rfl := HEYF.out
            have L4 := HLZ.out _ b5
            have CZ := Lib.hid (rend_is z eB HEZ.out)
            go_wp2_with (first | (refine ldCIf (by kernel_rfl) (.tmp 54) rfl _ rfl z L4 ?_))
            refine (CZ.out _).mono ?_
            rintro e u7 ⟨rfl, d7⟩
            go_wp2_with fail
            go_ret
            exact ⟨retb (by simp), below_seq b5 d7⟩
        · obtain rfl : n = m := by omega
          have HEZF : Hid (false = eB) := Lib.hid (by have := HE2.out; rw [drop_end (by rw [HL.out]; exact Nat.le_refl _)] at this; exact this)
          clear HE2
          obtain rfl := HEYF.out
          obtain rfl := HEZF.out
          go_wp2_with fail
          go_ret
          exact ⟨retb (by simp), b9⟩

set_option maxRecDepth 100000 in
set_option maxHeartbeats 8000000 in
theorem raround_any (l : List Cr) (v : Value) (ss : List Sty) (sv : Value) (w : World) (hR : RwC w v l) (hS : Ss w sv ss) (hN : NdOk ss l) (hn : l.length ≤ 1048576) :
    Calls Tryd.prog 30 #[v, sv] w fun e w' => ∃ u, e = .returned u ∧ OwC w.heap.size w' u (around (whF ss) false l) ∧ Below w.heap.size w w' := by
  have H1 := Lib.hid hR
  have HS := Lib.hid hS
  have HN := Lib.hid hN
  obtain ⟨W, hW⟩ : ∃ W, whF ss = W := ⟨_, rfl⟩
  have HW := Lib.hid hW
  obtain ⟨A, c, hv0⟩ := hR.form
  obtain ⟨n, hl⟩ : ∃ n, l.length = n := ⟨_, rfl⟩
  have HL := Lib.hid hl
  have HV0 := Lib.hid hv0
  rw [hl] at hn hv0
  obtain ⟨res, hres⟩ : ∃ r, around (whF ss) false l = r := ⟨_, rfl⟩
  rw [hres]
  have H0 : Hid ([] ++ around W (bA W l 0) (l.drop 0) = res) := Lib.hid (by rw [← hres, ← hW]; rfl)
  clear hR hl hres hS hN hW
  subst hv0
  go_enter Tryd.func30, Tryd.ntmps30
  go_wp2_with fail
  have O0 : OwC w.heap.size w (.slice none 0 0) [] := World.ownsRow_nil _ _ _ _
  go_loopg [5, 6] n (fun kx s5 s6 wr => ∃ (k : Nat) (u : Value) (acc : List Cr), u = s5 ∧ s6 = .int .i64 k ∧ k ≤ n ∧ kx = n - k ∧ acc.length ≤ k ∧ OwC w.heap.size wr u acc ∧ Below w.heap.size w wr ∧ Hid (acc ++ around W (bA W l k) (l.drop k) = res))
  case atStart => exact ⟨0, _, [], rfl, rfl, by omega, by omega, by simp, O0, Below.refl _ _, H0⟩
  case round =>
    clear O0 H0
    obtain ⟨k, u, acc, rfl, rfl, hk, rfl, hal, O, b, HA⟩ := hrel
    by_cases hkm : k < n
    · have hkz : (k : Int) < n := by omega
      obtain ⟨x, hx⟩ := atR_of (l := l) (i := k) (by rw [HL.out]; exact hkm)
      obtain ⟨a1, capa1, o1, hv, _, ha1, hLa1⟩ := H1.out.get b hx
      rw [HL.out] at hv
      injection hv with hv1 hv2 hv3
      subst hv1 hv3
      have HAL := Lib.hid hal
      have HX := Lib.hid hx
      have HLX := Lib.hid hLa1
      have HO := Lib.hid O
      have HB := Lib.hid b
      have hbs := b.size
      obtain ⟨j, s, hj, hs⟩ := HN.out x (List.mem_of_getElem? hx)
      have HJ := Lib.hid hj
      have HSJ := Lib.hid hs
      have HSW : Hid (∀ X, Below wr.heap.size wr X → Ss X sv ss) := Lib.hid fun X h => HS.out.below (below_seq HB.out h)
      clear hv2 hx hLa1 O b hj hs
      obtain ⟨c1, hc1⟩ : ∃ b, wht W x = b := ⟨_, rfl⟩
      have HC1 := Lib.hid hc1
      have Cc1 : Hid (∀ X, Below wr.heap.size wr X → Calls Tryd.prog 54 #[.agg (chA x), sv] X fun e w' => e = .returned (.bool c1) ∧ Below X.heap.size X w') := Lib.hid fun X h => by have := rwht_any x ss sv X (HSW.out X h) j s HJ.out HSJ.out; rwa [HW.out, HC1.out] at this
      clear hc1
      have L1 := HLX.out
      go_wp2_with (first | (refine ldC rfl (.tmp 15) rfl _ rfl x L1 ?_))
      refine (Cc1.out _ (Below.refl _ _)).mono ?_
      rintro e u2 ⟨rfl, d2⟩
      clear L1
      cases c1 with
      | true =>
        obtain ⟨c2, h2⟩ : ∃ b, (bA W l k || nextEnd W (l.drop (k + 1))) = b := ⟨_, rfl⟩
        have HC2 := Lib.hid h2
        have C2 : Hid (∀ X, Below wr.heap.size wr X → Calls Tryd.prog 60 #[.slice (some a1) n c, sv, .int .i64 (k : Nat)] X fun e w' => e = .returned (.bool c2) ∧ Below X.heap.size X w') := Lib.hid fun X h => by have := rbeside_any l _ ss sv k X (H1.out.below (below_seq HB.out h)) (HSW.out X h) HN.out (by rw [HL.out]; exact hn) (by rw [HL.out]; exact hkm); rwa [HW.out, h2] at this
        clear h2
        go_wp2_with fail
        refine (C2.out _ d2).mono ?_
        rintro e u3 ⟨rfl, d3⟩
        have d4 := below_seq d2 d3
        cases c2 with
        | true =>
          have HAD : Hid (acc ++ around W (bA W l (k + 1)) (l.drop (k + 1)) = res) := Lib.hid (by have := HA.out; rw [around_at HX.out] at this; rw [HC1.out, HC2.out] at this; exact this)
          clear HA
          go_wp2_with fail
          go_roundg (n - (k + 1))
          case measure => omega
          case rel => exact ⟨k + 1, _, acc, rfl, by go_num, by omega, by omega, by omega, HO.out.below d4, HB.out.trans (d4.mono hbs), HAD⟩
        | false =>
          have HAK : Hid ((acc ++ [x]) ++ around W (bA W l (k + 1)) (l.drop (k + 1)) = res) := Lib.hid (by have := HA.out; rw [around_at HX.out] at this; rw [HC1.out, HC2.out] at this; simpa using this)
          have O2 := HO.out.below d4
          have hb2 := HB.out.trans (d4.mono hbs)
          have L2 := HLX.out.below d4
          have hbs2 := hb2.size
          have HB2 := Lib.hid hb2
          clear HA
          go_wp2_with (first | (refine ldC rfl (.tmp 30) rfl _ rfl x L2 ?_) | (refine apC (o1 := ⟨some 32, _, _, _, _, _⟩) rfl (.tmp 31) rfl 32 rfl rfl (.tmp 27) rfl x rfl _ (fun _ => rfl) (fun _ => rfl) w.heap.size acc.length _ O2 (by omega) hbs2 ?_; intro u4 v5 w5 O5 b5; refine Mk.out ?_))
          constructor
          have O6 : OwC w.heap.size w5 v5 (acc ++ [x]) := by unfold OwC; rw [List.length_append, flatC_snoc]; exact O5
          have b6 := HB2.out.trans b5
          clear O5 b5 O2 hb2 L2
          go_wp2_with fail
          go_roundg (n - (k + 1))
          case measure => omega
          case rel => exact ⟨k + 1, _, acc ++ [x], rfl, by go_num, by omega, by omega, (by have := HAL.out; rw [List.length_append]; show acc.length + 1 ≤ _; omega), O6, b6, HAK⟩
      | false =>
        have HAK : Hid ((acc ++ [x]) ++ around W (bA W l (k + 1)) (l.drop (k + 1)) = res) := Lib.hid (by have := HA.out; rw [around_at HX.out] at this; rw [HC1.out] at this; simpa using this)
        have O2 := HO.out.below d2
        have hb2 := HB.out.trans (d2.mono hbs)
        have L2 := HLX.out.below d2
        have hbs2 := hb2.size
        have HB2 := Lib.hid hb2
        clear HA
        go_wp2_with (first | (refine ldC rfl (.tmp 30) rfl _ rfl x L2 ?_) | (refine apC (o1 := ⟨some 32, _, _, _, _, _⟩) rfl (.tmp 31) rfl 32 rfl rfl (.tmp 27) rfl x rfl _ (fun _ => rfl) (fun _ => rfl) w.heap.size acc.length _ O2 (by omega) hbs2 ?_; intro u4 v5 w5 O5 b5; refine Mk.out ?_))
        constructor
        have O6 : OwC w.heap.size w5 v5 (acc ++ [x]) := by unfold OwC; rw [List.length_append, flatC_snoc]; exact O5
        have b6 := HB2.out.trans b5
        clear O5 b5 O2 hb2 L2
        go_wp2_with fail
        go_roundg (n - (k + 1))
        case measure => omega
        case rel => exact ⟨k + 1, _, acc ++ [x], rfl, by go_num, by omega, by omega, (by have := HAL.out; rw [List.length_append]; show acc.length + 1 ≤ _; omega), O6, b6, HAK⟩
    · obtain rfl : n = k := by omega
      have HF : Hid (acc = res) := Lib.hid (by have := HA.out; rw [drop_end (by rw [HL.out]; exact Nat.le_refl _)] at this; simpa [around] using this)
      have HO : Hid (OwC w.heap.size wr u res) := Lib.hid (HF.out ▸ O)
      clear HF O
      go_wp2_with fail
      go_ret
      exact ⟨_, rfl, HO.out, b⟩

set_option maxRecDepth 100000 in
set_option maxHeartbeats 8000000 in
theorem rseveral_any (l : List Cr) (v : Value) (ss : List Sty) (sv : Value) (w : World) (hR : RwC w v l) (hS : Ss w sv ss) (hN : NdOk ss l) (hn : l.length ≤ 1048576) :
    Calls Tryd.prog 29 #[v, sv] w fun e w' => ∃ u, e = .returned u ∧ OwC w.heap.size w' u (several (whF ss) false false l) ∧ Below w.heap.size w w' := by
  have H1 := Lib.hid hR
  have HS := Lib.hid hS
  have HN := Lib.hid hN
  obtain ⟨W, hW⟩ : ∃ W, whF ss = W := ⟨_, rfl⟩
  have HW := Lib.hid hW
  obtain ⟨A, c, hv0⟩ := hR.form
  obtain ⟨n, hl⟩ : ∃ n, l.length = n := ⟨_, rfl⟩
  have HL := Lib.hid hl
  have HV0 := Lib.hid hv0
  rw [hl] at hn hv0
  obtain ⟨res, hres⟩ : ∃ r, several (whF ss) false false l = r := ⟨_, rfl⟩
  rw [hres]
  have H0 : Hid ([] ++ several W (bS W l 0) (pB (soft W) l 0) (l.drop 0) = res) := Lib.hid (by rw [← hres, ← hW]; rfl)
  clear hR hl hres hS hN hW
  subst hv0
  go_enter Tryd.func29, Tryd.ntmps29
  go_wp2_with fail
  have O0 : OwC w.heap.size w (.slice none 0 0) [] := World.ownsRow_nil _ _ _ _
  go_loopg [5, 6] n (fun kx s5 s6 wr => ∃ (k : Nat) (u : Value) (acc : List Cr), u = s5 ∧ s6 = .int .i64 k ∧ k ≤ n ∧ kx = n - k ∧ acc.length ≤ k ∧ OwC w.heap.size wr u acc ∧ Below w.heap.size w wr ∧ Hid (acc ++ several W (bS W l k) (pB (soft W) l k) (l.drop k) = res))
  case atStart => exact ⟨0, _, [], rfl, rfl, by omega, by omega, by simp, O0, Below.refl _ _, H0⟩
  case round =>
    clear O0 H0
    obtain ⟨k, u, acc, rfl, rfl, hk, rfl, hal, O, b, HA⟩ := hrel
    by_cases hkm : k < n
    · have hkz : (k : Int) < n := by omega
      obtain ⟨x, hx⟩ := atR_of (l := l) (i := k) (by rw [HL.out]; exact hkm)
      obtain ⟨a1, capa1, o1, hv, _, ha1, hLa1⟩ := H1.out.get b hx
      rw [HL.out] at hv
      injection hv with hv1 hv2 hv3
      subst hv1 hv3
      have HAL := Lib.hid hal
      have HX := Lib.hid hx
      have HLX := Lib.hid hLa1
      have HO := Lib.hid O
      have HB := Lib.hid b
      have hbs := b.size
      obtain ⟨j, s, hj, hs⟩ := HN.out x (List.mem_of_getElem? hx)
      have HJ := Lib.hid hj
      have HSJ := Lib.hid hs
      have HSW : Hid (∀ X, Below wr.heap.size wr X → Ss X sv ss) := Lib.hid fun X h => HS.out.below (below_seq HB.out h)
      clear hv2 hx hLa1 O b hj hs
      by_cases hk0 : k = 0
      · subst hk0
        obtain ⟨c1, hc1⟩ : ∃ b, soft W x = b := ⟨_, rfl⟩
        have HC1 := Lib.hid hc1
        have Cc1 : Hid (∀ X, Below wr.heap.size wr X → Calls Tryd.prog 56 #[.agg (chA x), sv] X fun e w' => e = .returned (.bool c1) ∧ Below X.heap.size X w') := Lib.hid fun X h => by have := rsoft_any x ss sv X (HSW.out X h) j s HJ.out HSJ.out; rwa [HW.out, HC1.out] at this
        clear hc1
        have L1 := HLX.out
        go_wp2_with (first | (refine ldC rfl (.tmp 15) rfl _ rfl x L1 ?_))
        refine (Cc1.out _ (Below.refl _ _)).mono ?_
        rintro e u2 ⟨rfl, d2⟩
        clear L1
        cases c1 with
        | true =>
          obtain ⟨c2, h2⟩ : ∃ b, (bS W l (0) || nextHard W (l.drop (0 + 1))) = b := ⟨_, rfl⟩
          have HC2 := Lib.hid h2
          have C2 : Hid (∀ X, Below wr.heap.size wr X → Calls Tryd.prog 59 #[.slice (some a1) n c, sv, .int .i64 ((0 : Nat) : Int)] X fun e w' => e = .returned (.bool c2) ∧ Below X.heap.size X w') := Lib.hid fun X h => by
            have := rhard_any l _ ss sv (0) X (H1.out.below (below_seq HB.out h)) (HSW.out X h) HN.out (by rw [HL.out]; exact hn) (by rw [HL.out]; exact hkm)
            rw [HW.out, nextHard_back HX.out, nextHard_ahead HX.out, HC1.out] at this
            simp only [if_true] at this
            have e : (nextHard W (l.take (0)).reverse || nextHard W (l.drop (0 + 1))) = c2 := h2
            rwa [e] at this
          clear h2
          go_wp2_with fail
          refine (C2.out _ d2).mono ?_
          rintro e u3 ⟨rfl, d3⟩
          have d4 := below_seq d2 d3
          cases c2 with
          | true =>
            have HAD : Hid (acc ++ several W (bS W l (0 + 1)) (pB (soft W) l (0 + 1)) (l.drop (0 + 1)) = res) := Lib.hid (by have := HA.out; rw [several_at HX.out] at this; rw [HC1.out, HC2.out] at this; exact this)
            clear HA
            go_wp2_with fail
            go_roundg (n - (0 + 1))
            case measure => omega
            case rel => exact ⟨0 + 1, _, acc, rfl, by go_num, by omega, by omega, by omega, HO.out.below d4, HB.out.trans (d4.mono hbs), HAD⟩
          | false =>
            have HAK : Hid ((acc ++ [x]) ++ several W (bS W l (0 + 1)) (pB (soft W) l (0 + 1)) (l.drop (0 + 1)) = res) := Lib.hid (by have := HA.out; rw [several_at HX.out] at this; rw [HC1.out, HC2.out, pB_zero] at this; simpa using this)
            have O2 := HO.out.below d4
            have hb2 := HB.out.trans (d4.mono hbs)
            have L2 := HLX.out.below d4
            have hbs2 := hb2.size
            have HB2 := Lib.hid hb2
            clear HA
            go_wp2_with (first | (refine ldC rfl (.tmp 44) rfl _ rfl x L2 ?_) | (refine apC (o1 := ⟨some 46, _, _, _, _, _⟩) rfl (.tmp 45) rfl 46 rfl rfl (.tmp 41) rfl x rfl _ (fun _ => rfl) (fun _ => rfl) w.heap.size acc.length _ O2 (by omega) hbs2 ?_; intro u4 v5 w5 O5 b5; refine Mk.out ?_))
            constructor
            have O6 : OwC w.heap.size w5 v5 (acc ++ [x]) := by unfold OwC; rw [List.length_append, flatC_snoc]; exact O5
            have b6 := HB2.out.trans b5
            clear O5 b5 O2 hb2 L2
            go_wp2_with fail
            go_roundg (n - (0 + 1))
            case measure => omega
            case rel => exact ⟨0 + 1, _, acc ++ [x], rfl, by go_num, by omega, by omega, (by have := HAL.out; rw [List.length_append]; show acc.length + 1 ≤ _; omega), O6, b6, HAK⟩
        | false =>
          have HAK : Hid ((acc ++ [x]) ++ several W (bS W l (0 + 1)) (pB (soft W) l (0 + 1)) (l.drop (0 + 1)) = res) := Lib.hid (by have := HA.out; rw [several_at HX.out] at this; rw [HC1.out] at this; simpa using this)
          have O2 := HO.out.below d2
          have hb2 := HB.out.trans (d2.mono hbs)
          have L2 := HLX.out.below d2
          have hbs2 := hb2.size
          have HB2 := Lib.hid hb2
          clear HA
          go_wp2_with (first | (refine ldC rfl (.tmp 44) rfl _ rfl x L2 ?_) | (refine apC (o1 := ⟨some 46, _, _, _, _, _⟩) rfl (.tmp 45) rfl 46 rfl rfl (.tmp 41) rfl x rfl _ (fun _ => rfl) (fun _ => rfl) w.heap.size acc.length _ O2 (by omega) hbs2 ?_; intro u4 v5 w5 O5 b5; refine Mk.out ?_))
          constructor
          have O6 : OwC w.heap.size w5 v5 (acc ++ [x]) := by unfold OwC; rw [List.length_append, flatC_snoc]; exact O5
          have b6 := HB2.out.trans b5
          clear O5 b5 O2 hb2 L2
          go_wp2_with fail
          go_roundg (n - (0 + 1))
          case measure => omega
          case rel => exact ⟨0 + 1, _, acc ++ [x], rfl, by go_num, by omega, by omega, (by have := HAL.out; rw [List.length_append]; show acc.length + 1 ≤ _; omega), O6, b6, HAK⟩
      · obtain ⟨q1, rfl⟩ : ∃ q1, k = q1 + 1 := ⟨k - 1, by omega⟩
        have hqz : (((q1 : Int) + 1) == 0) = false := by simp; omega
        have hzq : (q1 : Int) < n := by omega
        obtain ⟨c1, hc1⟩ : ∃ b, soft W x = b := ⟨_, rfl⟩
        have HC1 := Lib.hid hc1
        have Cc1 : Hid (∀ X, Below wr.heap.size wr X → Calls Tryd.prog 56 #[.agg (chA x), sv] X fun e w' => e = .returned (.bool c1) ∧ Below X.heap.size X w') := Lib.hid fun X h => by have := rsoft_any x ss sv X (HSW.out X h) j s HJ.out HSJ.out; rwa [HW.out, HC1.out] at this
        clear hc1
        have L1 := HLX.out
        go_wp2_with (first | (refine ldC rfl (.tmp 15) rfl _ rfl x L1 ?_))
        refine (Cc1.out _ (Below.refl _ _)).mono ?_
        rintro e u2 ⟨rfl, d2⟩
        clear L1
        cases c1 with
        | true =>
          obtain ⟨c2, h2⟩ : ∃ b, (bS W l (q1 + 1) || nextHard W (l.drop (q1 + 1 + 1))) = b := ⟨_, rfl⟩
          have HC2 := Lib.hid h2
          have C2 : Hid (∀ X, Below wr.heap.size wr X → Calls Tryd.prog 59 #[.slice (some a1) n c, sv, .int .i64 ((q1 + 1 : Nat) : Int)] X fun e w' => e = .returned (.bool c2) ∧ Below X.heap.size X w') := Lib.hid fun X h => by
            have := rhard_any l _ ss sv (q1 + 1) X (H1.out.below (below_seq HB.out h)) (HSW.out X h) HN.out (by rw [HL.out]; exact hn) (by rw [HL.out]; exact hkm)
            rw [HW.out, nextHard_back HX.out, nextHard_ahead HX.out, HC1.out] at this
            simp only [if_true] at this
            have e : (nextHard W (l.take (q1 + 1)).reverse || nextHard W (l.drop (q1 + 1 + 1))) = c2 := h2
            rwa [e] at this
          clear h2
          go_wp2_with fail
          refine (C2.out _ d2).mono ?_
          rintro e u3 ⟨rfl, d3⟩
          have d4 := below_seq d2 d3
          cases c2 with
          | true =>
            have HAD : Hid (acc ++ several W (bS W l (q1 + 1 + 1)) (pB (soft W) l (q1 + 1 + 1)) (l.drop (q1 + 1 + 1)) = res) := Lib.hid (by have := HA.out; rw [several_at HX.out] at this; rw [HC1.out, HC2.out] at this; exact this)
            clear HA
            go_wp2_with fail
            go_roundg (n - (q1 + 1 + 1))
            case measure => omega
            case rel => exact ⟨q1 + 1 + 1, _, acc, rfl, by go_num, by omega, by omega, by omega, HO.out.below d4, HB.out.trans (d4.mono hbs), HAD⟩
          | false =>
            obtain ⟨y, hy⟩ := atR_of (l := l) (i := q1) (by rw [HL.out]; omega)
            obtain ⟨a2, capa2, o2, hv, _, ha2, hLa2⟩ := H1.out.get (below_seq HB.out d4) hy
            rw [HL.out] at hv
            injection hv with hv1 hv2 hv3
            injection hv1 with hv1
            subst hv1
            obtain ⟨j2, s2, hj2, hs2⟩ := HN.out y (List.mem_of_getElem? hy)
            have HJ2 := Lib.hid hj2
            have HSJ2 := Lib.hid hs2
            have HY := Lib.hid hy
            have HLY := Lib.hid hLa2
            clear hj2 hs2 hy hv2 hv3 hLa2
            obtain ⟨c3, hc3⟩ : ∃ b, soft W y = b := ⟨_, rfl⟩
            have HC3 := Lib.hid hc3
            have Cc3 : Hid (∀ X, Below wr.heap.size wr X → Calls Tryd.prog 56 #[.agg (chA y), sv] X fun e w' => e = .returned (.bool c3) ∧ Below X.heap.size X w') := Lib.hid fun X h => by have := rsoft_any y ss sv X (HSW.out X h) j2 s2 HJ2.out HSJ2.out; rwa [HW.out, HC3.out] at this
            clear hc3
            have L1 := HLY.out
            go_wp2_with (first | (refine ldCIf (by kernel_rfl) (.tmp 33) rfl _ rfl y L1 ?_))
            refine (Cc3.out _ d4).mono ?_
            rintro e u5 ⟨rfl, d5⟩
            have d6 := below_seq d4 d5
            clear L1
            cases c3 with
            | true =>
              have HAD : Hid (acc ++ several W (bS W l (q1 + 1 + 1)) (pB (soft W) l (q1 + 1 + 1)) (l.drop (q1 + 1 + 1)) = res) := Lib.hid (by have := HA.out; rw [several_at HX.out] at this; rw [HC1.out, HC2.out, pB_succ HY.out, HC3.out] at this; exact this)
              clear HA
              go_wp2_with fail
              go_roundg (n - (q1 + 1 + 1))
              case measure => omega
              case rel => exact ⟨q1 + 1 + 1, _, acc, rfl, by go_num, by omega, by omega, by omega, HO.out.below d6, HB.out.trans (d6.mono hbs), HAD⟩
            | false =>
              have HAK : Hid ((acc ++ [x]) ++ several W (bS W l (q1 + 1 + 1)) (pB (soft W) l (q1 + 1 + 1)) (l.drop (q1 + 1 + 1)) = res) := Lib.hid (by have := HA.out; rw [several_at HX.out] at this; rw [HC1.out, HC2.out, pB_succ HY.out, HC3.out] at this; simpa using this)
              have O2 := HO.out.below d6
              have hb2 := HB.out.trans (d6.mono hbs)
              have L2 := HLX.out.below d6
              have hbs2 := hb2.size
              have HB2 := Lib.hid hb2
              clear HA
              go_wp2_with (first | (refine ldC rfl (.tmp 44) rfl _ rfl x L2 ?_) | (refine apC (o1 := ⟨some 46, _, _, _, _, _⟩) rfl (.tmp 45) rfl 46 rfl rfl (.tmp 41) rfl x rfl _ (fun _ => rfl) (fun _ => rfl) w.heap.size acc.length _ O2 (by omega) hbs2 ?_; intro u4 v5 w5 O5 b5; refine Mk.out ?_))
              constructor
              have O6 : OwC w.heap.size w5 v5 (acc ++ [x]) := by unfold OwC; rw [List.length_append, flatC_snoc]; exact O5
              have b6 := HB2.out.trans b5
              clear O5 b5 O2 hb2 L2
              go_wp2_with fail
              go_roundg (n - (q1 + 1 + 1))
              case measure => omega
              case rel => exact ⟨q1 + 1 + 1, _, acc ++ [x], rfl, by go_num, by omega, by omega, (by have := HAL.out; rw [List.length_append]; show acc.length + 1 ≤ _; omega), O6, b6, HAK⟩
        | false =>
          have HAK : Hid ((acc ++ [x]) ++ several W (bS W l (q1 + 1 + 1)) (pB (soft W) l (q1 + 1 + 1)) (l.drop (q1 + 1 + 1)) = res) := Lib.hid (by have := HA.out; rw [several_at HX.out] at this; rw [HC1.out] at this; simpa using this)
          have O2 := HO.out.below d2
          have hb2 := HB.out.trans (d2.mono hbs)
          have L2 := HLX.out.below d2
          have hbs2 := hb2.size
          have HB2 := Lib.hid hb2
          clear HA
          go_wp2_with (first | (refine ldC rfl (.tmp 44) rfl _ rfl x L2 ?_) | (refine apC (o1 := ⟨some 46, _, _, _, _, _⟩) rfl (.tmp 45) rfl 46 rfl rfl (.tmp 41) rfl x rfl _ (fun _ => rfl) (fun _ => rfl) w.heap.size acc.length _ O2 (by omega) hbs2 ?_; intro u4 v5 w5 O5 b5; refine Mk.out ?_))
          constructor
          have O6 : OwC w.heap.size w5 v5 (acc ++ [x]) := by unfold OwC; rw [List.length_append, flatC_snoc]; exact O5
          have b6 := HB2.out.trans b5
          clear O5 b5 O2 hb2 L2
          go_wp2_with fail
          go_roundg (n - (q1 + 1 + 1))
          case measure => omega
          case rel => exact ⟨q1 + 1 + 1, _, acc ++ [x], rfl, by go_num, by omega, by omega, (by have := HAL.out; rw [List.length_append]; show acc.length + 1 ≤ _; omega), O6, b6, HAK⟩
    · obtain rfl : n = k := by omega
      have HF : Hid (acc = res) := Lib.hid (by have := HA.out; rw [drop_end (by rw [HL.out]; exact Nat.le_refl _)] at this; simpa [several] using this)
      have HO : Hid (OwC w.heap.size wr u res) := Lib.hid (HF.out ▸ O)
      clear HF O
      go_wp2_with fail
      go_ret
      exact ⟨_, rfl, HO.out, b⟩

end Go.Proofs.YtejcfhfmdijimaaDoor
