/- The walk of ChanceNone: for every list the law returns true. Conditions: the slices read as the lists. -/
import Derived.Test.YtnoenccpbbkdeaaCh18
import Derived.Test.YtnoenccpbbkdeaaChRow
namespace Go.Proofs.Ytnoenccpbbkdeaa
open Go.ChangeShapes Go.WideShapes Go.ChangeAt Go.RowKit Go.Shelf
open Wh (Cr)
open Ch

def nonS (i : Nat) (s : Sty) : Sty := { s with a0 := 1 + ((i % 2 : Nat) : Int) }
theorem nonS_all {ss : List Sty} {k : Nat} (h : ss.length ≤ k) : ∀ s ∈ mixS nonS ss k, s.a0 = 1 ∨ s.a0 = 2 := mixS_all h fun i _ => by
  show (1 + ((i % 2 : Nat) : Int) = 1 ∨ 1 + ((i % 2 : Nat) : Int) = 2)
  omega
theorem none_all {ss : List Sty} {l : List Cr} {rs : List Int} (hm : mayC l ss.length rs = true) (hw : ∀ s ∈ ss, s.a0 = 1 ∨ s.a0 = 2) {i : Nat} (hi : i < l.length) : (chn ss z0 l rs)[i]? = some 0 := by
  have hlen := (mayC_is hm).1
  obtain ⟨c, hc⟩ := at_ (l := l) (k := i) hi
  obtain ⟨r, hr⟩ := at_ (l := rs) (k := i) (by omega)
  exact none_at hm hw hc hr

set_option maxRecDepth 100000 in
set_option maxHeartbeats 8000000 in
theorem lawChanceNone_any (l : List Cr) (ss : List Sty) (rs : List Int) (v1 v2 v3 : Value) (w : World) (hR : RwC w v1 l) (hS : Ss w v2 ss) (hI : RI w v3 rs) :
    Calls Try.prog 4 #[.agg #[v1, v2, v3]] w fun e w' => e = .returned (.bool true) ∧ Below w.heap.size w w' := by
  have HR := Lib.hid hR
  have HS := Lib.hid hS
  have HI := Lib.hid hI
  obtain ⟨A1, c1, rfl⟩ := hR.form
  obtain ⟨A2, c2, rfl⟩ := hS.form
  obtain ⟨A3, c3, rfl⟩ := hI.form
  obtain ⟨n, hn⟩ : ∃ n, l.length = n := ⟨_, rfl⟩
  obtain ⟨m, hm⟩ : ∃ n, ss.length = n := ⟨_, rfl⟩
  obtain ⟨q, hq⟩ : ∃ n, rs.length = n := ⟨_, rfl⟩
  have HN := Lib.hid hn
  have HM := Lib.hid hm
  have HQ := Lib.hid hq
  rw [r64_len, hq] at HI ⊢
  rw [hm] at HS ⊢
  rw [hn] at HR ⊢
  clear hR hS hI hn hm hq
  go_enter Try.func4, Try.ntmps4
  go_wp2_with (refine bxLV rfl (.tmp 0) rfl rfl ?_; intro w1 b1 B1; obtain ⟨q1, q2, q3⟩ := (⟨B1.cell 0, B1.cell 1, B1.cell 2⟩ : w1.cell? ⟨w.heap.size, 0, none⟩ = some (.slice A1 n c1) ∧ w1.cell? ⟨w.heap.size, 1, none⟩ = some (.slice A2 m c2) ∧ w1.cell? ⟨w.heap.size, 2, none⟩ = some (.slice A3 q c3)))
  have HX : Hid (Bx w1 w.heap.size A1 A2 A3 n m q c1 c2 c3 l ss rs) := Lib.hid ⟨B1, HR.out.below b1, HS.out.below b1, HI.out.below b1⟩
  have HB1 := Lib.hid b1
  clear B1 HR HS HI b1
  refine (cgreat_any _ _ _ _ _ _ _ _ _ _).mono ?_
  rintro e w2 ⟨rfl, b2⟩
  have HB2 := Lib.hid (below_seq HB1.out b2)
  have HX2 := Lib.hid (HX.out.below b2)
  clear b2 HX q1 q2 q3
  by_cases hg : (decide (100 < n) || decide (40 < m) || decide (150 < q)) = true
  · rw [hg]
    go_wp2_with fail
    refine (chead_any _).mono ?_
    rintro e w3 ⟨rfl, b3⟩
    go_wp2_with fail
    go_ret
    exact ⟨rfl, below_seq HB2.out b3⟩
  have HG := Lib.hid (great_no hg)
  rw [Bool.not_eq_true] at hg
  rw [hg]
  clear hg
  obtain ⟨q1, q2, q3⟩ := HX2.out.q
  have hl1 : l.length ≤ 100000 := by rw [HN.out]; have := HG.out.1; omega
  go_wp2_with fail
  by_cases hmy : mayC l ss.length rs = true
  rotate_left
  · refine (chances_no ss l rs _ _ _ w2 HX2.out.ch HX2.out.st HX2.out.ru hl1 (by simpa using hmy)).mono ?_
    rintro e w6 ⟨rfl, b6⟩
    go_wp2_with fail
    refine (chead_any _).mono ?_
    rintro e w7 ⟨rfl, b7⟩
    go_wp2_with fail
    go_ret
    exact ⟨rfl, below_seq (below_seq HB2.out b6) b7⟩
  refine (chances_ok ss l rs _ _ _ w2 HX2.out.ch HX2.out.st HX2.out.ru hl1 hmy).mono ?_
  rintro e w3 ⟨G, rfl, hG2, Ra, b3⟩
  rw [HN.out] at Ra ⊢
  have HRa := Lib.hid Ra
  have HMY := Lib.hid hmy
  have HB3 := Lib.hid (below_seq HB2.out b3)
  have HX3 := Lib.hid (HX2.out.below b3)
  clear Ra b3 q1 q2 q3 hmy hl1 hG2 HX2
  go_wp2_with fail
  go_loopg [5] n (fun kx s5 wr => ∃ k : Nat, s5 = .int .i64 (k : Int) ∧ k ≤ n ∧ kx = n - k ∧ Below w3.heap.size w3 wr)
  case atStart => exact ⟨0, rfl, Nat.zero_le _, by first | rfl | omega, Below.refl _ _⟩
  case round =>
    obtain ⟨k, rfl, hk, rfl, bel⟩ := hrel
    have HBE := Lib.hid bel
    have HX7 := Lib.hid (HX3.out.below bel)
    clear bel
    obtain ⟨q1, q2, q3⟩ := HX7.out.q
    have hn100 := HG.out.1
    by_cases hkn : k < n
    · obtain ⟨c, hc⟩ := at_ (l := l) (k := k) (by rw [HN.out]; exact hkn)
      obtain ⟨a1, cp1, o1, hv1, hab1, ha1, _⟩ := HX7.out.ch.get (Below.refl _ _) hc
      rw [HN.out] at hv1
      obtain ⟨rfl, rfl⟩ : A1 = some a1 ∧ c1 = cp1 := by injection hv1 with h1 _ h2; exact ⟨h1, h2⟩
      have HLc : Hid (∀ (i o : Nat) (d : Cr), l[i]? = some d → a1.add (i * 5) = ⟨a1.block, o, none⟩ → ∀ W, Below wr.heap.size wr W → Lies W ⟨a1.block, o, none⟩ (chA d)) := Lib.hid fun i o d hd ho W b => by
        obtain ⟨a1', _, o1', hv1', _, ha1', hL⟩ := HX7.out.ch.get b hd
        injection hv1' with h1 _ _
        injection h1 with h1
        subst h1
        rw [ho] at ha1'
        injection ha1' with _ h2 _
        subst h2
        exact hL
      have HLo : Hid (∀ (i : Nat) (d : Cr), l[i]? = some d → ∃ o, a1.add (i * 5) = ⟨a1.block, o, none⟩) := Lib.hid fun i d hd => by
        obtain ⟨a1', _, o1', hv1', _, ha1', _⟩ := HX7.out.ch.get (Below.refl _ _) hd
        injection hv1' with h1 _ _
        injection h1 with h1
        subst h1
        exact ⟨o1', ha1'⟩
      have hL1 : Hid (∀ W, Below wr.heap.size wr W → Lies W ⟨a1.block, o1, none⟩ (chA c)) := Lib.hid (HLc.out k o1 c hc ha1)
      obtain ⟨kd, hkd⟩ : ∃ z, c.kind = z := ⟨_, rfl⟩
      obtain ⟨x, hx, hx3, hx0, hxx⟩ := none_row HMY.out (i := k) (by rw [HN.out]; exact hkn)
      have CF : Hid (∀ W, Below wr.heap.size wr W → W.cell? ⟨G, k, none⟩ = some (.int .u8 x)) := Lib.hid fun W b => r8_cell HRa.out (HBE.out.trans (b.mono HBE.out.size)) hx
      have hkz : (k : Int) < n := by omega
      have HKD := Lib.hid hkd
      have HC := Lib.hid hc
      have HX3' := Lib.hid hx3
      have HX0 := Lib.hid hx0
      have HXX := Lib.hid hxx
      clear hv1 hab1 hc hkd hx hx3 hx0 hxx
      go_wp2_with (first
        | (with_reducible refine ldC (o := ⟨some 43, _, _, _, _, _⟩) rfl (.tmp 42) rfl ⟨a1.block, o1, none⟩ rfl c (hL1.out _ (Below.refl _ _)) ?_)
        | (with_reducible refine nwC (o1 := ⟨some 6, _, _, _, _, _⟩) rfl rfl 6 rfl rfl (.tmp 43) rfl rfl c (fun _ => rfl) (fun _ => rfl) ?_; intro w8 b8 B8; refine Mk.out ?_))
      constructor
      have HB8 := Lib.hid b8
      have g1 := CF.out w8 b8
      obtain ⟨p1, p2, p3⟩ := (HX7.out.below b8).q
      have B84 : w8.cell? ⟨wr.heap.size, 4, none⟩ = some (.int .u8 kd) := (B8.cell 4).trans (by rw [← HKD.out]; rfl)
      clear B8 q1 q2 q3
      by_cases hk0 : k = 0
      · subst hk0
        obtain rfl : x = 0 := HX0.out rfl
        by_cases ekd5 : kd = 5
        · subst ekd5
          go_wp2_with fail
          go_roundg (n - (1))
          case measure => omega
          case rel => exact ⟨1, by go_num, by omega, by first | rfl | trivial, HBE.out.trans (HB8.out.mono HBE.out.size)⟩
        · have nkd5 : (kd == 5) = false := by simpa using ekd5
          go_wp2_with fail
          go_roundg (n - (1))
          case measure => omega
          case rel => exact ⟨1, by go_num, by omega, by first | rfl | trivial, HBE.out.trans (HB8.out.mono HBE.out.size)⟩
      obtain ⟨j, hj⟩ : ∃ j, k = j + 1 := ⟨k - 1, by omega⟩
      have hwk : IntKind.i64.wrap ((k : Int) - 1) = (j : Int) := (IntWalk.i64_in _ (by omega)).trans (by omega)
      have hkp : (0 : Int) < k := by omega
      have nk0 : ((k : Int) == 0) = false := by simpa using hk0
      have hjn : (j : Int) < n := by omega
      obtain ⟨d, hd⟩ := at_ (l := l) (k := j) (by rw [HN.out]; omega)
      obtain ⟨o0, ha0⟩ := HLo.out j d hd
      have hL0 : Hid (∀ W, Below wr.heap.size wr W → W.cell? ⟨a1.block, o0 + 4, none⟩ = some (.int .u8 d.kind)) := Lib.hid fun W b => lies_cell (HLc.out j o0 d hd ha0 W b) 4 rfl
      obtain ⟨ka, hka⟩ : ∃ z, d.kind = z := ⟨_, rfl⟩
      obtain ⟨y5, z5, y12⟩ := HXX.out j d c hj hd HC.out
      rw [HKD.out] at y5 y12
      rw [hka] at z5 y12
      have Y5 := Lib.hid y5
      have Z5 := Lib.hid z5
      have Y12 := Lib.hid y12
      rw [hka] at hL0
      clear hd hka hj y5 z5 y12
      have g0 := hL0.out w8 b8
      clear b8
      by_cases ex0 : x = 0
      · subst ex0
        by_cases eka5 : ka = 5
        · subst eka5
          by_cases ekd5 : kd = 5
          · subst ekd5
            go_wp2_with fail
            go_roundg (n - (k + 1))
            case measure => omega
            case rel => exact ⟨k + 1, by go_num, by omega, by first | rfl | trivial, HBE.out.trans (HB8.out.mono HBE.out.size)⟩
          have nkd5 : (kd == 5) = false := by simpa using ekd5
          by_cases ekd1 : kd = 1
          · subst ekd1
            go_wp2_with fail
            go_roundg (n - (k + 1))
            case measure => omega
            case rel => exact ⟨k + 1, by go_num, by omega, by first | rfl | trivial, HBE.out.trans (HB8.out.mono HBE.out.size)⟩
          have nkd1 : (kd == 1) = false := by simpa using ekd1
          by_cases ekd2 : kd = 2
          · subst ekd2
            go_wp2_with fail
            go_roundg (n - (k + 1))
            case measure => omega
            case rel => exact ⟨k + 1, by go_num, by omega, by first | rfl | trivial, HBE.out.trans (HB8.out.mono HBE.out.size)⟩
          have nkd2 : (kd == 2) = false := by simpa using ekd2
          go_wp2_with fail
          go_roundg (n - (k + 1))
          case measure => omega
          case rel => exact ⟨k + 1, by go_num, by omega, by first | rfl | trivial, HBE.out.trans (HB8.out.mono HBE.out.size)⟩
        have nka5 : (ka == 5) = false := by simpa using eka5
        by_cases ekd5 : kd = 5
        · subst ekd5
          go_wp2_with fail
          go_roundg (n - (k + 1))
          case measure => omega
          case rel => exact ⟨k + 1, by go_num, by omega, by first | rfl | trivial, HBE.out.trans (HB8.out.mono HBE.out.size)⟩
        have nkd5 : (kd == 5) = false := by simpa using ekd5
        by_cases ekd1 : kd = 1
        · subst ekd1
          go_wp2_with fail
          go_roundg (n - (k + 1))
          case measure => omega
          case rel => exact ⟨k + 1, by go_num, by omega, by first | rfl | trivial, HBE.out.trans (HB8.out.mono HBE.out.size)⟩
        have nkd1 : (kd == 1) = false := by simpa using ekd1
        by_cases ekd2 : kd = 2
        · subst ekd2
          go_wp2_with fail
          go_roundg (n - (k + 1))
          case measure => omega
          case rel => exact ⟨k + 1, by go_num, by omega, by first | rfl | trivial, HBE.out.trans (HB8.out.mono HBE.out.size)⟩
        have nkd2 : (kd == 2) = false := by simpa using ekd2
        go_wp2_with fail
        go_roundg (n - (k + 1))
        case measure => omega
        case rel => exact ⟨k + 1, by go_num, by omega, by first | rfl | trivial, HBE.out.trans (HB8.out.mono HBE.out.size)⟩
      have nx0 : (x == 0) = false := by simpa using ex0
      have hx2 : ¬ (2 : Int) < x := by have := HX3'.out; omega
      have ekd5 : ¬ kd = 5 := fun h => ex0 (Y5.out h)
      have eka5 : ¬ ka = 5 := fun h => ex0 (Z5.out h)
      have nkd5 : (kd == 5) = false := by simpa using ekd5
      have nka5 : (ka == 5) = false := by simpa using eka5
      by_cases ekd1 : kd = 1
      · subst ekd1
        by_cases ea3 : ka = 3
        · subst ea3
          go_wp2_with fail
          go_roundg (n - (k + 1))
          case measure => omega
          case rel => exact ⟨k + 1, by go_num, by omega, by first | rfl | trivial, HBE.out.trans (HB8.out.mono HBE.out.size)⟩
        have na3 : (ka == 3) = false := by simpa using ea3
        obtain rfl : ka = 4 := Decidable.byContradiction fun h4 => ex0 (Y12.out (by simp) ea3 h4)
        go_wp2_with fail
        go_roundg (n - (k + 1))
        case measure => omega
        case rel => exact ⟨k + 1, by go_num, by omega, by first | rfl | trivial, HBE.out.trans (HB8.out.mono HBE.out.size)⟩
      have nkd1 : (kd == 1) = false := by simpa using ekd1
      by_cases ekd2 : kd = 2
      · subst ekd2
        by_cases ea3 : ka = 3
        · subst ea3
          go_wp2_with fail
          go_roundg (n - (k + 1))
          case measure => omega
          case rel => exact ⟨k + 1, by go_num, by omega, by first | rfl | trivial, HBE.out.trans (HB8.out.mono HBE.out.size)⟩
        have na3 : (ka == 3) = false := by simpa using ea3
        obtain rfl : ka = 4 := Decidable.byContradiction fun h4 => ex0 (Y12.out (by simp) ea3 h4)
        go_wp2_with fail
        go_roundg (n - (k + 1))
        case measure => omega
        case rel => exact ⟨k + 1, by go_num, by omega, by first | rfl | trivial, HBE.out.trans (HB8.out.mono HBE.out.size)⟩
      have nkd2 : (kd == 2) = false := by simpa using ekd2
      go_wp2_with fail
      go_roundg (n - (k + 1))
      case measure => omega
      case rel => exact ⟨k + 1, by go_num, by omega, by first | rfl | trivial, HBE.out.trans (HB8.out.mono HBE.out.size)⟩
    · obtain ⟨wz, hwz⟩ : ∃ x, x = wr := ⟨_, rfl⟩
      subst hwz
      obtain rfl : k = n := by omega
      have HB7 := Lib.hid (below_seq HB3.out HBE.out)
      clear HBE
      have hm40 := HG.out.2.1
      have FL : Hid (∀ W, Ss W (.slice A2 m c2) ss → Flat W (.slice A2 m c2) m (flatS ss)) := Lib.hid fun W h => by
        have := ssFlat h
        rwa [HM.out] at this
      have FL2 : Hid ((flatS ss).length = m * 9) := Lib.hid (by rw [flatS_len, HM.out])
      go_wp2_with (first
        | (refine bs0G rfl rfl 9 b0S ?_; intro w8 b8 O8; obtain ⟨p1, p2, p3⟩ := (HX7.out.below b8).q)
        | (refine wpList_appS (m := m) elmS rfl (.tmp 130) (.tmp 132) rfl rfl rfl [] (flatS ss) O8 (FL.out _ (HX7.out.below b8).st) FL2.out (flatS_one ss) b8.size (by omega) ?_; intro g5 c5 w4 O4 b4))
      rw [Nat.zero_add, List.nil_append] at O4
      try rw [Nat.zero_add]
      obtain ⟨S5, hg5⟩ := StP.of_own O4 HM.out
      have HS5 := Lib.hid S5
      have HG5 := Lib.hid hg5
      have HB24 := Lib.hid (b8.trans b4)
      clear O8 O4 S5 hg5 b8 b4 p1 p2 p3 q1 q2 q3
      go_wp2_with fail
      go_loopg [8] m (fun kx s4 wr => ∃ i : Nat, s4 = .int .i64 (i : Int) ∧ i ≤ m ∧ kx = m - i ∧ Below wz.heap.size wz wr ∧ StP wr g5 (mixS nonS ss i))
      case atStart => exact ⟨0, rfl, Nat.zero_le _, by first | rfl | omega, HB24.out, by rw [mixS_zero]; exact HS5.out⟩
      case round =>
        obtain ⟨i, rfl, hi, rfl, bel, St⟩ := hrel
        have HBE := Lib.hid bel
        by_cases him : i < m
        · obtain ⟨s, hs⟩ := at_ (l := ss) (k := i) (by rw [HM.out]; exact him)
          have hmx : (mixS nonS ss i)[i]? = some s := by rw [mixS_at hs, if_neg (by omega)]
          obtain ⟨f1, f2⟩ := St.cell hmx 0 (v := .int .u8 s.a0) rfl
          have St2 := St.set hmx 0 (s' := nonS i s) (by omega) (.int .u8 (1 + ((i % 2 : Nat) : Int))) rfl
          rw [mixS_set (f := nonS) hs] at St2
          rw [Nat.add_zero] at f1 f2 St2
          have hiz : (i : Int) < m := by omega
          have hrem : (i : Int).tmod 2 = ((i % 2 : Nat) : Int) := (Int.ofNat_tmod i 2).symm
          clear St hmx hs bel
          rcases (show i % 2 = 0 ∨ i % 2 = 1 by omega) with h2 | h2
          · rw [h2] at hrem St2
            have hrem : (i : Int).tmod 2 = 0 := hrem
            have HS2 : Hid (StP (wr.setCell ⟨g5, i * 9, none⟩ (.int .u8 1)) g5 (mixS nonS ss (i + 1))) := Lib.hid St2
            clear St2 h2
            go_wp2_with fail
            go_roundg (m - (i + 1))
            case measure => omega
            case rel => exact ⟨i + 1, by go_num, by omega, by first | rfl | trivial, HBE.out.setCell (by exact HG5.out) _, HS2.out⟩
          · rw [h2] at hrem St2
            have hrem : (i : Int).tmod 2 = 1 := hrem
            have HS2 : Hid (StP (wr.setCell ⟨g5, i * 9, none⟩ (.int .u8 2)) g5 (mixS nonS ss (i + 1))) := Lib.hid St2
            clear St2 h2
            go_wp2_with fail
            go_roundg (m - (i + 1))
            case measure => omega
            case rel => exact ⟨i + 1, by go_num, by omega, by first | rfl | trivial, HBE.out.setCell (by exact HG5.out) _, HS2.out⟩
        · obtain ⟨wy, hwy⟩ : ∃ x, x = wr := ⟨_, rfl⟩
          subst hwy
          obtain rfl : i = m := by omega
          have HB9 := Lib.hid (below_seq HB7.out bel)
          have HX9 := Lib.hid (HX7.out.below bel)
          have HSs : Hid (Ss wy (.slice (some ⟨g5, 0, none⟩) i c5) (mixS nonS ss i)) := Lib.hid (St.ss (by rw [mixS_len, HM.out]))
          have HAL := Lib.hid (nonS_all (ss := ss) (k := i) (by rw [HM.out]; exact Nat.le_refl _))
          have HMT : Hid (mayC l (mixS nonS ss i).length rs = true) := Lib.hid (by rw [mixS_len]; exact HMY.out)
          obtain ⟨ts, hts⟩ : ∃ ts, mixS nonS ss i = ts := ⟨_, rfl⟩
          rw [hts] at HSs HAL HMT
          obtain ⟨q1, q2, q3⟩ := HX9.out.q
          have hl1 : l.length ≤ 100000 := by rw [HN.out]; have := HG.out.1; omega
          clear hts St bel
          go_wp2_with fail
          refine (chances_ok ts l rs _ _ _ wy HX9.out.ch HSs.out HX9.out.ru hl1 HMT.out).mono ?_
          rintro e w10 ⟨H, rfl, _, Rb, b10⟩
          rw [HN.out] at Rb ⊢
          have HRb := Lib.hid Rb
          have HROW : Hid (∀ i, i < k → (chn ts z0 l rs)[i]? = some 0) := Lib.hid fun i hi => none_all HMT.out HAL.out (by rw [HN.out]; exact hi)
          have HB10 := Lib.hid (below_seq HB9.out b10)
          have HX10 := Lib.hid (HX9.out.below b10)
          clear Rb b10 q1 q2 q3 hl1 HX9 HSs HAL HBE HMT
          go_wp2_with fail
          go_loopg [11] k (fun kx s7 wr => ∃ i : Nat, s7 = .int .i64 (i : Int) ∧ i ≤ k ∧ kx = k - i ∧ Below w10.heap.size w10 wr)
          case atStart => exact ⟨0, rfl, Nat.zero_le _, by first | rfl | omega, Below.refl _ _⟩
          case round =>
            obtain ⟨h, rfl, hh, rfl, bel⟩ := hrel
            have HBE := Lib.hid bel
            have HX11 := Lib.hid (HX10.out.below bel)
            clear bel
            obtain ⟨q1, q2, q3⟩ := HX11.out.q
            by_cases hkh : h < k
            · have g1 : wr.cell? ⟨H, h, none⟩ = some (.int .u8 0) := r8_cell HRb.out HBE.out (HROW.out h hkh)
              have hhz : (h : Int) < k := by omega
              go_wp2_with fail
              go_roundg (k - (h + 1))
              case measure => omega
              case rel => exact ⟨h + 1, by go_num, by omega, by first | rfl | trivial, HBE.out⟩
            · obtain rfl : h = k := by omega
              have HB11 := Lib.hid (below_seq HB10.out HBE.out)
              go_wp2_with fail
              refine (chead_any _).mono ?_
              rintro e w12 ⟨rfl, b12⟩
              go_wp2_with fail
              go_ret
              exact ⟨rfl, below_seq HB11.out b12⟩
end Go.Proofs.Ytnoenccpbbkdeaa
