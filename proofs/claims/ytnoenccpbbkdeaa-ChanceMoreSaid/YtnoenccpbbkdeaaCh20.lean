/- The walk of ChanceMore: for every list the law returns true. Conditions: the slices read as the lists. -/
import Derived.Test.YtnoenccpbbkdeaaCh18
import Derived.Test.YtnoenccpbbkdeaaChRow
import Derived.BigQuiet
namespace Go.Proofs.Ytnoenccpbbkdeaa
open Go.ChangeShapes Go.WideShapes Go.ChangeAt Go.RowKit Go.Shelf
open Wh (Cr)
open Ch

theorem more_row {ss : List Sty} {l : List Cr} {rs : List Int} (hm : mayC l ss.length rs = true) {i : Nat} (hi : i < l.length) :
    ∃ a b c : Int, (chn ss z0 l rs)[i]? = some a ∧ (chn (ss.map (wrp 1)) z0 l rs)[i]? = some b ∧ (chn (ss.map (wrp 0)) z0 l rs)[i]? = some c ∧ ((a = 1 ∧ b = 1 ∧ c = 1) ∨ (a = 2 ∧ b = 2 ∧ c = 0) ∨ (a = 0 ∧ b = 0 ∧ c = 0) ∨ (a = 0 ∧ b = 2 ∧ c = 0)) := by
  obtain ⟨a, b, c, h1, h2, h3, h4, h5, h6, h7⟩ := more_at hm hi
  obtain ⟨x, e1, r1, _⟩ := none_row hm hi
  obtain ⟨y, e2, r2, _⟩ := none_row (ss := ss.map (wrp 1)) (by rw [List.length_map]; exact hm) hi
  obtain ⟨z, e3, r3, _⟩ := none_row (ss := ss.map (wrp 0)) (by rw [List.length_map]; exact hm) hi
  rw [h1] at e1
  rw [h2] at e2
  rw [h3] at e3
  cases e1
  cases e2
  cases e3
  refine ⟨a, b, c, h1, h2, h3, ?_⟩
  omega

set_option maxRecDepth 100000 in
set_option maxHeartbeats 8000000 in
theorem lawChanceMore_any (l : List Cr) (ss : List Sty) (rs : List Int) (v1 v2 v3 : Value) (w : World) (hR : RwC w v1 l) (hS : Ss w v2 ss) (hI : RI w v3 rs) :
    Calls Try.prog 5 #[.agg #[v1, v2, v3]] w fun e w' => e = .returned (.bool true) ∧ Below w.heap.size w w' := by
  have HR := Lib.hid hR
  have HS := Lib.hid hS
  have HI := Lib.hid hI
  obtain ⟨A1, c1, rfl⟩ := hR.form
  obtain ⟨A2, c2, rfl⟩ := hS.form
  obtain ⟨A3, c3, rfl⟩ := hI.form
  obtain ⟨n, hn⟩ : ∃ n, l.length = n := ⟨_, rfl⟩
  obtain ⟨m, hm⟩ : ∃ n, ss.length = n := ⟨_, rfl⟩
  obtain ⟨q, hq⟩ : ∃ n, rs.length = n := ⟨_, rfl⟩
  have HN := Lib.hid hn
  have HM := Lib.hid hm
  have HQ := Lib.hid hq
  rw [r64_len, hq] at HI ⊢
  rw [hm] at HS ⊢
  rw [hn] at HR ⊢
  clear hR hS hI hn hm hq
  go_enter Try.func5, Try.ntmps5
  go_wp2_with (refine bxLV rfl (.tmp 0) rfl rfl ?_; intro w1 b1 B1; obtain ⟨q1, q2, q3⟩ := (⟨B1.cell 0, B1.cell 1, B1.cell 2⟩ : w1.cell? ⟨w.heap.size, 0, none⟩ = some (.slice A1 n c1) ∧ w1.cell? ⟨w.heap.size, 1, none⟩ = some (.slice A2 m c2) ∧ w1.cell? ⟨w.heap.size, 2, none⟩ = some (.slice A3 q c3)))
  have HX : Hid (Bx w1 w.heap.size A1 A2 A3 n m q c1 c2 c3 l ss rs) := Lib.hid ⟨B1, HR.out.below b1, HS.out.below b1, HI.out.below b1⟩
  have HB1 := Lib.hid b1
  clear B1 HR HS HI b1
  refine (cgreat_any _ _ _ _ _ _ _ _ _ _).mono ?_
  rintro e w2 ⟨rfl, b2⟩
  have HB2 := Lib.hid (below_seq HB1.out b2)
  have HX2 := Lib.hid (HX.out.below b2)
  clear b2 HX q1 q2 q3
  by_cases hg : (decide (100 < n) || decide (40 < m) || decide (150 < q)) = true
  · rw [hg]
    go_wp2_with fail
    refine (chead_any _).mono ?_
    rintro e w3 ⟨rfl, b3⟩
    go_wp2_with fail
    go_ret
    exact ⟨rfl, below_seq HB2.out b3⟩
  have HG := Lib.hid (great_no hg)
  rw [Bool.not_eq_true] at hg
  rw [hg]
  clear hg
  obtain ⟨q1, q2, q3⟩ := HX2.out.q
  have hm40 := HG.out.2.1
  have FL : Hid (∀ W, Ss W (.slice A2 m c2) ss → Flat W (.slice A2 m c2) m (flatS ss)) := Lib.hid fun W h => by
    have := ssFlat h
    rwa [HM.out] at this
  have FL2 : Hid ((flatS ss).length = m * 9) := Lib.hid (by rw [flatS_len, HM.out])
  go_wp2_with (first
    | (refine bs0G rfl rfl 9 b0S ?_; intro w3 b3 O3; obtain ⟨p1, p2, p3⟩ := (HX2.out.below b3).q)
    | (refine wpList_appS (m := m) elmS rfl (.tmp 16) (.tmp 18) rfl rfl rfl [] (flatS ss) O3 (FL.out _ (HX2.out.below b3).st) FL2.out (flatS_one ss) b3.size (by omega) ?_; intro g3 c3' w4 O4 b4; refine Mk.out ?_))
  constructor
  rw [Nat.zero_add, List.nil_append] at O4
  try rw [Nat.zero_add]
  obtain ⟨S3, hg3⟩ := StP.of_own O4 HM.out
  have HS3 := Lib.hid S3
  have HG3 : Hid (w2.heap.size ≤ g3 ∧ g3 < w4.heap.size) := Lib.hid ⟨hg3, S3.lt⟩
  have HB24 := Lib.hid (b3.trans b4)
  have HX4 := Lib.hid (HX2.out.below HB24.out)
  clear O3 O4 S3 hg3 b3 b4 p1 p2 p3 q1 q2 q3
  go_wp2_with (first
    | (refine bs0G rfl rfl 9 b0S ?_; intro w5 b5 O5; obtain ⟨p1, p2, p3⟩ := (HX4.out.below b5).q)
    | (refine wpList_appS (m := m) elmS rfl (.tmp 20) (.tmp 22) rfl rfl rfl [] (flatS ss) O5 (FL.out _ (HX4.out.below b5).st) FL2.out (flatS_one ss) b5.size (by omega) ?_; intro g4 c4' w6 O6 b6; refine Mk.out ?_))
  constructor
  rw [Nat.zero_add, List.nil_append] at O6
  try rw [Nat.zero_add]
  obtain ⟨S4, hg4⟩ := StP.of_own O6 HM.out
  have b46 := b5.trans b6
  have HS4 := Lib.hid S4
  have HNE : Hid (g3 ≠ g4 ∧ w2.heap.size ≤ g3 ∧ w2.heap.size ≤ g4) := Lib.hid (by have h1 := HG3.out; have h2 := HB24.out.size; refine ⟨?_, ?_, ?_⟩ <;> omega)
  have HS3 := Lib.hid (HS3.out.below b46)
  have HB26 := Lib.hid (HB24.out.trans (b46.mono HB24.out.size))
  have HX6 := Lib.hid (HX4.out.below b46)
  clear O5 O6 S4 hg4 b5 b6 b46 p1 p2 p3 HX4 HB24
  go_wp2_with fail
  go_loopg [5] m (fun kx s4 wr => ∃ k : Nat, s4 = .int .i64 (k : Int) ∧ k ≤ m ∧ kx = m - k ∧ Below w2.heap.size w2 wr ∧ StP wr g3 (mixS (fun _ => wrp 1) ss k) ∧ StP wr g4 (mixS (fun _ => wrp 0) ss k))
  case atStart => exact ⟨0, rfl, Nat.zero_le _, by first | rfl | omega, HB26.out, by rw [mixS_zero]; exact HS3.out, by rw [mixS_zero]; exact HS4.out⟩
  case round =>
    obtain ⟨k, rfl, hk, rfl, bel, St, Su⟩ := hrel
    obtain ⟨wz, hwz⟩ : ∃ x, x = wr := ⟨_, rfl⟩
    subst hwz
    have HXr := Lib.hid (HX2.out.below bel)
    obtain ⟨q1, q2, q3⟩ := HXr.out.q
    by_cases hkm : k < m
    · obtain ⟨s, hs⟩ := at_ (l := ss) (k := k) (by rw [HM.out]; exact hkm)
      have hmx : (mixS (fun _ => wrp 1) ss k)[k]? = some s := by rw [mixS_at hs, if_neg (by omega)]
      have hmy : (mixS (fun _ => wrp 0) ss k)[k]? = some s := by rw [mixS_at hs, if_neg (by omega)]
      obtain ⟨f1, f2⟩ := St.cell hmx 2 (v := .int .u8 s.a2) rfl
      have St1 := St.set hmx 2 (s' := wrp 1 s) (by omega) (.int .u8 1) rfl
      rw [mixS_set (f := fun _ => wrp 1) hs] at St1
      have mA : Mod (fun x => x = g3) wz (wz.setCell ⟨g3, k * 9 + 2, none⟩ (.int .u8 1)) := Mod.setCell (S := fun x => x = g3) (Mod.refl _ _) (.inl rfl) _
      have Su1 := Su.keep mA (fun h => HNE.out.1 h.symm)
      obtain ⟨f3, f4⟩ := Su1.cell hmy 2 (v := .int .u8 s.a2) rfl
      have Su2 := Su1.set hmy 2 (s' := wrp 0 s) (by omega) (.int .u8 0) rfl
      rw [mixS_set (f := fun _ => wrp 0) hs] at Su2
      have mB : Mod (fun x => x = g4) (wz.setCell ⟨g3, k * 9 + 2, none⟩ (.int .u8 1)) ((wz.setCell ⟨g3, k * 9 + 2, none⟩ (.int .u8 1)).setCell ⟨g4, k * 9 + 2, none⟩ (.int .u8 0)) := Mod.setCell (S := fun x => x = g4) (Mod.refl _ _) (.inl rfl) _
      have St2 := St1.keep mB HNE.out.1
      have HS2 := Lib.hid St2
      have HU2 := Lib.hid Su2
      have HBE := Lib.hid bel
      have hkz : (k : Int) < m := by omega
      clear St Su St1 St2 Su1 Su2 mA mB hmx hmy hs bel
      go_wp2_with fail
      go_roundg (m - (k + 1))
      case measure => omega
      case rel => exact ⟨k + 1, by go_num, by omega, by first | rfl | trivial, (HBE.out.setCell (by exact HNE.out.2.1) _).setCell (by exact HNE.out.2.2) _, HS2.out, HU2.out⟩
    · obtain rfl : k = m := by omega
      have HBE := Lib.hid (below_seq HB2.out bel)
      have HSs : Hid (Ss wz (.slice (some ⟨g3, 0, none⟩) k c3') (ss.map (wrp 1))) := Lib.hid (by
        have := St.ss (n := k) (c := c3') (by rw [mixS_len, HM.out])
        rwa [mixS_map (by rw [HM.out]; exact Nat.le_refl _)] at this)
      have HSu : Hid (Ss wz (.slice (some ⟨g4, 0, none⟩) k c4') (ss.map (wrp 0))) := Lib.hid (by
        have := Su.ss (n := k) (c := c4') (by rw [mixS_len, HM.out])
        rwa [mixS_map (by rw [HM.out]; exact Nat.le_refl _)] at this)
      have HL1 : Hid (l.length ≤ 100000) := Lib.hid (by rw [HN.out]; have := HG.out.1; omega)
      have HE1 : Hid ((ss.map (wrp 1)).length = ss.length) := Lib.hid (by rw [List.length_map])
      have HE0 : Hid ((ss.map (wrp 0)).length = ss.length) := Lib.hid (by rw [List.length_map])
      clear St Su bel hkm
      go_wp2_with fail
      by_cases hmy : mayC l ss.length rs = true
      rotate_left
      · have hmn : mayC l ss.length rs = false := by simpa using hmy
        have HM1 : Hid (mayC l (ss.map (wrp 1)).length rs = false) := Lib.hid (by rw [HE1.out]; exact hmn)
        have HM0 : Hid (mayC l (ss.map (wrp 0)).length rs = false) := Lib.hid (by rw [HE0.out]; exact hmn)
        refine (chances_no ss l rs _ _ _ wz HXr.out.ch HXr.out.st HXr.out.ru HL1.out hmn).mono ?_
        rintro e w7 ⟨rfl, b7⟩
        have HB7 := Lib.hid (below_seq HBE.out b7)
        have HX7 := Lib.hid (HXr.out.below b7)
        have HSs7 := Lib.hid (HSs.out.below b7)
        have HSu7 := Lib.hid (HSu.out.below b7)
        clear b7 q1 q2 q3 hmy hmn
        obtain ⟨q1, q2, q3⟩ := HX7.out.q
        go_wp2_with fail
        refine (chances_no (ss.map (wrp 1)) l rs _ _ _ w7 HX7.out.ch HSs7.out HX7.out.ru HL1.out HM1.out).mono ?_
        rintro e w8 ⟨rfl, b8⟩
        have HB8 := Lib.hid (below_seq HB7.out b8)
        have HX8 := Lib.hid (HX7.out.below b8)
        have HSu8 := Lib.hid (HSu7.out.below b8)
        clear b8 q1 q2 q3
        obtain ⟨q1, q2, q3⟩ := HX8.out.q
        go_wp2_with fail
        refine (chances_no (ss.map (wrp 0)) l rs _ _ _ w8 HX8.out.ch HSu8.out HX8.out.ru HL1.out HM0.out).mono ?_
        rintro e w9 ⟨rfl, b9⟩
        have HB9 := Lib.hid (below_seq HB8.out b9)
        clear b9 q1 q2 q3
        go_wp2_with fail
        go_loopg [12] 0 (fun kx s12 wr => s12 = .int .i64 0 ∧ kx = 0 ∧ Below w9.heap.size w9 wr)
        case atStart => exact ⟨rfl, rfl, Below.refl _ _⟩
        case round =>
          obtain ⟨rfl, rfl, bel⟩ := hrel
          have HB10 := Lib.hid (below_seq HB9.out bel)
          clear bel
          go_wp2_with fail
          refine (chead_any _).mono ?_
          rintro e w11 ⟨rfl, b11⟩
          go_wp2_with fail
          go_ret
          exact ⟨rfl, below_seq HB10.out b11⟩
      have HM1 : Hid (mayC l (ss.map (wrp 1)).length rs = true) := Lib.hid (by rw [HE1.out]; exact hmy)
      have HM0 : Hid (mayC l (ss.map (wrp 0)).length rs = true) := Lib.hid (by rw [HE0.out]; exact hmy)
      have HROW : Hid (∀ i, i < n → ∃ a b c : Int, (chn ss z0 l rs)[i]? = some a ∧ (chn (ss.map (wrp 1)) z0 l rs)[i]? = some b ∧ (chn (ss.map (wrp 0)) z0 l rs)[i]? = some c ∧ ((a = 1 ∧ b = 1 ∧ c = 1) ∨ (a = 2 ∧ b = 2 ∧ c = 0) ∨ (a = 0 ∧ b = 0 ∧ c = 0) ∨ (a = 0 ∧ b = 2 ∧ c = 0))) := Lib.hid fun i hi => more_row hmy (by rw [HN.out]; exact hi)
      refine (chances_ok ss l rs _ _ _ wz HXr.out.ch HXr.out.st HXr.out.ru HL1.out hmy).mono ?_
      rintro e w7 ⟨G1, rfl, _, Ra, b7⟩
      rw [HN.out] at Ra ⊢
      have HB7 := Lib.hid (below_seq HBE.out b7)
      have HX7 := Lib.hid (HXr.out.below b7)
      have HSs7 := Lib.hid (HSs.out.below b7)
      have HSu7 := Lib.hid (HSu.out.below b7)
      have HRa := Lib.hid Ra
      clear b7 q1 q2 q3 hmy Ra
      obtain ⟨q1, q2, q3⟩ := HX7.out.q
      go_wp2_with fail
      refine (chances_ok (ss.map (wrp 1)) l rs _ _ _ w7 HX7.out.ch HSs7.out HX7.out.ru HL1.out HM1.out).mono ?_
      rintro e w8 ⟨G2, rfl, _, Rb, b8⟩
      rw [HN.out] at Rb ⊢
      have HB8 := Lib.hid (below_seq HB7.out b8)
      have HX8 := Lib.hid (HX7.out.below b8)
      have HSu8 := Lib.hid (HSu7.out.below b8)
      have HRa8 := Lib.hid (Row.below HRa.out b8)
      have HRb := Lib.hid Rb
      clear b8 q1 q2 q3 Rb HRa
      obtain ⟨q1, q2, q3⟩ := HX8.out.q
      go_wp2_with fail
      refine (chances_ok (ss.map (wrp 0)) l rs _ _ _ w8 HX8.out.ch HSu8.out HX8.out.ru HL1.out HM0.out).mono ?_
      rintro e w9 ⟨G3, rfl, _, Rc, b9⟩
      rw [HN.out] at Rc ⊢
      have HB9 := Lib.hid (below_seq HB8.out b9)
      have HRa9 := Lib.hid (Row.below HRa8.out b9)
      have HRb9 := Lib.hid (Row.below HRb.out b9)
      have HRc := Lib.hid Rc
      clear b9 q1 q2 q3 Rc HRb HRa8
      go_wp2_with fail
      go_loopg [12] n (fun kx s12 wr => ∃ i : Nat, s12 = .int .i64 (i : Int) ∧ i ≤ n ∧ kx = n - i ∧ Below w9.heap.size w9 wr)
      case atStart => exact ⟨0, rfl, Nat.zero_le _, by first | rfl | omega, Below.refl _ _⟩
      case round =>
        obtain ⟨i, rfl, hi, rfl, bel⟩ := hrel
        have HBF := Lib.hid bel
        clear bel
        have hn100 := HG.out.1
        by_cases hin : i < n
        · obtain ⟨a, b, c, ha, hb, hc, hcase⟩ := HROW.out i hin
          have g1 : wr.cell? ⟨G1, i, none⟩ = some (.int .u8 a) := r8_cell HRa9.out HBF.out ha
          have g2 : wr.cell? ⟨G2, i, none⟩ = some (.int .u8 b) := r8_cell HRb9.out HBF.out hb
          have g3 : wr.cell? ⟨G3, i, none⟩ = some (.int .u8 c) := r8_cell HRc.out HBF.out hc
          have hiz : (i : Int) < n := by omega
          clear ha hb hc
          rcases hcase with ⟨rfl, rfl, rfl⟩ | ⟨rfl, rfl, rfl⟩ | ⟨rfl, rfl, rfl⟩ | ⟨rfl, rfl, rfl⟩
          · go_wp2_with fail
            go_quiet (fail)
            go_wp2_with fail
            go_roundg (n - (i + 1))
            case measure => omega
            case rel => exact ⟨i + 1, by go_num, by omega, by first | rfl | trivial, below_drewN HBF.out _⟩
          · go_wp2_with fail
            go_quiet (fail)
            go_wp2_with fail
            go_roundg (n - (i + 1))
            case measure => omega
            case rel => exact ⟨i + 1, by go_num, by omega, by first | rfl | trivial, below_drewN HBF.out _⟩
          · go_wp2_with fail
            go_quiet (fail)
            go_wp2_with fail
            go_roundg (n - (i + 1))
            case measure => omega
            case rel => exact ⟨i + 1, by go_num, by omega, by first | rfl | trivial, below_drewN HBF.out _⟩
          · go_wp2_with fail
            go_quiet (fail)
            go_wp2_with fail
            go_roundg (n - (i + 1))
            case measure => omega
            case rel => exact ⟨i + 1, by go_num, by omega, by first | rfl | trivial, below_drewN HBF.out _⟩
        · obtain rfl : i = n := by omega
          have HB10 := Lib.hid (below_seq HB9.out HBF.out)
          go_wp2_with fail
          refine (chead_any _).mono ?_
          rintro e w11 ⟨rfl, b11⟩
          go_wp2_with fail
          go_ret
          exact ⟨rfl, below_seq HB10.out b11⟩
end Go.Proofs.Ytnoenccpbbkdeaa
