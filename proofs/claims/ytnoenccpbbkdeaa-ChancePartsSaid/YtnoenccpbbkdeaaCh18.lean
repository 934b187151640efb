/- The walk of ChanceAnywhere: for every list the law returns true. Conditions: the slices read as the lists. -/
import Derived.Test.YtnoenccpbbkdeaaCh17
namespace Go.Proofs.Ytnoenccpbbkdeaa
open Go.ChangeShapes Go.WideShapes Go.ChangeAt Go.RowKit Go.Shelf
open Wh (Cr)
open Ch

/-- what the law asks at a place -/
def anyAt (l : List Cr) (i : Nat) : Int := match i with
  | 0 => 0
  | j + 1 => match l[j]?, l[j + 1]? with
    | some a, some c => if a.kind = 5 ∨ c.kind = 5 ∨ c.kind = 1 ∨ c.kind = 2 ∨ markC c = true then 0 else 1
    | _, _ => 0
theorem any_row {ss : List Sty} {l : List Cr} {rs : List Int} (hm : mayC l ss.length rs = true) (hs : ∀ s ∈ ss, s.a0 = 0 ∧ s.a3 = 3) {i : Nat} (hi : i < l.length) : (chn ss z0 l rs)[i]? = some (anyAt l i) := by
  have hlen := (mayC_is hm).1
  obtain ⟨c, hc⟩ := at_ (l := l) (k := i) hi
  obtain ⟨r, hr⟩ := at_ (l := rs) (k := i) (by omega)
  cases i with
  | zero => exact chn_zero hc hr
  | succ j =>
    obtain ⟨a, ha⟩ := at_ (l := l) (k := j) (by omega)
    rw [any_at hm hs ha hc hr]
    simp only [anyAt, ha, hc]
def anyS (s : Sty) : Sty := { s with a0 := 0, a3 := 3 }
def anyS1 (s : Sty) : Sty := { s with a0 := 0 }
theorem anyS_all {ss : List Sty} {k : Nat} (h : ss.length ≤ k) : ∀ s ∈ mixS (fun _ => anyS) ss k, s.a0 = 0 ∧ s.a3 = 3 := mixS_all h fun _ _ => ⟨rfl, rfl⟩
theorem r8_cell {w W : World} {G n : Nat} {l : List Int} (h : R8 w (.slice (some ⟨G, 0, none⟩) n n) l) (b : Below w.heap.size w W) {k : Nat} {x : Int} (hx : l[k]? = some x) : W.cell? ⟨G, k, none⟩ = some (.int .u8 x) := by
  rcases Row.below h b with ⟨hv, _⟩ | ⟨ad, cp, hv, _, hc⟩
  · cases hv
  · injection hv with h1 _ _
    injection h1 with h1
    rw [← h1] at hc
    rw [← add0]
    exact hc k _ (r8_at hx)

set_option maxRecDepth 100000 in
set_option maxHeartbeats 8000000 in
theorem lawChanceAnywhere_any (l : List Cr) (ss : List Sty) (rs : List Int) (v1 v2 v3 : Value) (w : World) (hR : RwC w v1 l) (hS : Ss w v2 ss) (hI : RI w v3 rs) :
    Calls Try.prog 7 #[.agg #[v1, v2, v3]] w fun e w' => e = .returned (.bool true) ∧ Below w.heap.size w w' := by
  have HR := Lib.hid hR
  have HS := Lib.hid hS
  have HI := Lib.hid hI
  obtain ⟨A1, c1, rfl⟩ := hR.form
  obtain ⟨A2, c2, rfl⟩ := hS.form
  obtain ⟨A3, c3, rfl⟩ := hI.form
  obtain ⟨n, hn⟩ : ∃ n, l.length = n := ⟨_, rfl⟩
  obtain ⟨m, hm⟩ : ∃ n, ss.length = n := ⟨_, rfl⟩
  obtain ⟨q, hq⟩ : ∃ n, rs.length = n := ⟨_, rfl⟩
  have HN := Lib.hid hn
  have HM := Lib.hid hm
  have HQ := Lib.hid hq
  rw [r64_len, hq] at HI ⊢
  rw [hm] at HS ⊢
  rw [hn] at HR ⊢
  clear hR hS hI hn hm hq
  go_enter Try.func7, Try.ntmps7
  go_wp2_with (refine bxLV rfl (.tmp 0) rfl rfl ?_; intro w1 b1 B1; obtain ⟨q1, q2, q3⟩ := (⟨B1.cell 0, B1.cell 1, B1.cell 2⟩ : w1.cell? ⟨w.heap.size, 0, none⟩ = some (.slice A1 n c1) ∧ w1.cell? ⟨w.heap.size, 1, none⟩ = some (.slice A2 m c2) ∧ w1.cell? ⟨w.heap.size, 2, none⟩ = some (.slice A3 q c3)))
  have HX : Hid (Bx w1 w.heap.size A1 A2 A3 n m q c1 c2 c3 l ss rs) := Lib.hid ⟨B1, HR.out.below b1, HS.out.below b1, HI.out.below b1⟩
  have HB1 := Lib.hid b1
  clear B1 HR HS HI b1
  refine (cgreat_any _ _ _ _ _ _ _ _ _ _).mono ?_
  rintro e w2 ⟨rfl, b2⟩
  have HB2 := Lib.hid (below_seq HB1.out b2)
  have HX2 := Lib.hid (HX.out.below b2)
  clear b2 HX q1 q2 q3
  by_cases hg : (decide (100 < n) || decide (40 < m) || decide (150 < q)) = true
  · rw [hg]
    go_wp2_with fail
    refine (chead_any _).mono ?_
    rintro e w3 ⟨rfl, b3⟩
    go_wp2_with fail
    go_ret
    exact ⟨rfl, below_seq HB2.out b3⟩
  have HG := Lib.hid (great_no hg)
  rw [Bool.not_eq_true] at hg
  rw [hg]
  clear hg
  obtain ⟨q1, q2, q3⟩ := HX2.out.q
  have hm40 := HG.out.2.1
  have FL : Hid (∀ W, Ss W (.slice A2 m c2) ss → Flat W (.slice A2 m c2) m (flatS ss)) := Lib.hid fun W h => by
    have := ssFlat h
    rwa [HM.out] at this
  have FL2 : Hid ((flatS ss).length = m * 9) := Lib.hid (by rw [flatS_len, HM.out])
  go_wp2_with (first
    | (refine bs0G rfl rfl 9 b0S ?_; intro w3 b3 O3; obtain ⟨p1, p2, p3⟩ := (HX2.out.below b3).q)
    | (refine wpList_appS (m := m) elmS rfl (.tmp 13) (.tmp 15) rfl rfl rfl [] (flatS ss) O3 (FL.out _ (HX2.out.below b3).st) FL2.out (flatS_one ss) b3.size (by omega) ?_; intro g5 c5 w4 O4 b4))
  rw [Nat.zero_add, List.nil_append] at O4
  try rw [Nat.zero_add]
  obtain ⟨S5, hg5⟩ := StP.of_own O4 HM.out
  have HS5 := Lib.hid S5
  have HG5 := Lib.hid hg5
  have HB24 := Lib.hid (b3.trans b4)
  have HB4 := Lib.hid (below_seq HB2.out HB24.out)
  have HX4 := Lib.hid (HX2.out.below HB24.out)
  clear O3 O4 S5 hg5 b3 b4 p1 p2 p3 q1 q2 q3
  go_wp2_with fail
  go_loopg [4] m (fun kx s4 wr => ∃ k : Nat, s4 = .int .i64 (k : Int) ∧ k ≤ m ∧ kx = m - k ∧ Below w2.heap.size w2 wr ∧ StP wr g5 (mixS (fun _ => anyS) ss k))
  case atStart => exact ⟨0, rfl, Nat.zero_le _, by first | rfl | omega, HB24.out, by rw [mixS_zero]; exact HS5.out⟩
  case round =>
    obtain ⟨k, rfl, hk, rfl, bel, St⟩ := hrel
    by_cases hkm : k < m
    · obtain ⟨s, hs⟩ := at_ (l := ss) (k := k) (by rw [HM.out]; exact hkm)
      have hmx : (mixS (fun _ => anyS) ss k)[k]? = some s := by rw [mixS_at hs, if_neg (by omega)]
      obtain ⟨f1, f2⟩ := St.cell hmx 0 (v := .int .u8 s.a0) rfl
      have St1 := St.set hmx 0 (s' := anyS1 s) (by omega) (.int .u8 0) rfl
      have hmx1 : ((mixS (fun _ => anyS) ss k).set k (anyS1 s))[k]? = some (anyS1 s) := List.getElem?_set_self (by rw [mixS_len, HM.out]; exact hkm)
      obtain ⟨f3, f4⟩ := St1.cell hmx1 3 (v := .int .u8 s.a3) rfl
      have St2 := St1.set hmx1 3 (s' := anyS s) (by omega) (.int .u8 3) rfl
      rw [List.set_set, mixS_set (f := fun _ => anyS) hs] at St2
      rw [Nat.add_zero] at f1 f2 f3 f4 St1 St2
      have HS2 := Lib.hid St2
      have HBE := Lib.hid bel
      have hkz : (k : Int) < m := by omega
      clear St St1 St2 hmx hmx1 hs bel
      go_wp2_with fail
      go_roundg (m - (k + 1))
      case measure => omega
      case rel => exact ⟨k + 1, by go_num, by omega, by first | rfl | trivial, (HBE.out.setCell (by exact HG5.out) _).setCell (by exact HG5.out) _, HS2.out⟩
    · obtain rfl : k = m := by omega
      have HBE := Lib.hid (below_seq HB2.out bel)
      have HX5 := Lib.hid (HX2.out.below bel)
      have HSs : Hid (Ss wr (.slice (some ⟨g5, 0, none⟩) k c5) (mixS (fun _ => anyS) ss k)) := Lib.hid (St.ss (by rw [mixS_len, HM.out]))
      have HAL := Lib.hid (anyS_all (ss := ss) (k := k) (by rw [HM.out]; exact Nat.le_refl _))
      have HLs : Hid ((mixS (fun _ => anyS) ss k).length = k) := Lib.hid (by rw [mixS_len, HM.out])
      obtain ⟨ts, hts⟩ : ∃ ts, mixS (fun _ => anyS) ss k = ts := ⟨_, rfl⟩
      rw [hts] at HSs HAL HLs
      obtain ⟨q1, q2, q3⟩ := HX5.out.q
      have hl1 : l.length ≤ 100000 := by rw [HN.out]; have := HG.out.1; omega
      clear hts St bel
      go_wp2_with fail
      by_cases hmy : mayC l ts.length rs = true
      rotate_left
      · refine (chances_no ts l rs _ _ _ wr HX5.out.ch HSs.out HX5.out.ru hl1 (by simpa using hmy)).mono ?_
        rintro e w6 ⟨rfl, b6⟩
        go_wp2_with fail
        refine (chead_any _).mono ?_
        rintro e w7 ⟨rfl, b7⟩
        go_wp2_with fail
        go_ret
        exact ⟨rfl, below_seq (below_seq HBE.out b6) b7⟩
      refine (chances_ok ts l rs _ _ _ wr HX5.out.ch HSs.out HX5.out.ru hl1 hmy).mono ?_
      rintro e w6 ⟨G, rfl, _, Ra, b6⟩
      rw [HN.out] at Ra ⊢
      have HRa := Lib.hid Ra
      have HROW : Hid (∀ i, i < n → (chn ts z0 l rs)[i]? = some (anyAt l i)) := Lib.hid fun i hi => any_row hmy HAL.out (by rw [HN.out]; exact hi)
      have HB6 := Lib.hid (below_seq HBE.out b6)
      have HX6 := Lib.hid (HX5.out.below b6)
      clear Ra b6 q1 q2 q3 hmy hl1 HX5 HSs HAL HBE
      go_wp2_with fail
      go_loopg [7] n (fun kx s7 wr => ∃ k : Nat, s7 = .int .i64 (k : Int) ∧ k ≤ n ∧ kx = n - k ∧ Below w6.heap.size w6 wr)
      case atStart => exact ⟨0, rfl, Nat.zero_le _, by first | rfl | omega, Below.refl _ _⟩
      case round =>
        obtain ⟨k, rfl, hk, rfl, bel⟩ := hrel
        have HBE := Lib.hid bel
        have HX7 := Lib.hid (HX6.out.below bel)
        clear bel
        obtain ⟨q1, q2, q3⟩ := HX7.out.q
        have hn100 := HG.out.1
        by_cases hkn : k < n
        · obtain ⟨c, hc⟩ := at_ (l := l) (k := k) (by rw [HN.out]; exact hkn)
          obtain ⟨a1, cp1, o1, hv1, hab1, ha1, _⟩ := HX7.out.ch.get (Below.refl _ _) hc
          rw [HN.out] at hv1
          obtain ⟨rfl, rfl⟩ : A1 = some a1 ∧ c1 = cp1 := by injection hv1 with h1 _ h2; exact ⟨h1, h2⟩
          have HLc : Hid (∀ (i o : Nat) (d : Cr), l[i]? = some d → a1.add (i * 5) = ⟨a1.block, o, none⟩ → ∀ W, Below wr.heap.size wr W → Lies W ⟨a1.block, o, none⟩ (chA d)) := Lib.hid fun i o d hd ho W b => by
            obtain ⟨a1', _, o1', hv1', _, ha1', hL⟩ := HX7.out.ch.get b hd
            injection hv1' with h1 _ _
            injection h1 with h1
            subst h1
            rw [ho] at ha1'
            injection ha1' with _ h2 _
            subst h2
            exact hL
          have HLo : Hid (∀ (i : Nat) (d : Cr), l[i]? = some d → ∃ o, a1.add (i * 5) = ⟨a1.block, o, none⟩) := Lib.hid fun i d hd => by
            obtain ⟨a1', _, o1', hv1', _, ha1', _⟩ := HX7.out.ch.get (Below.refl _ _) hd
            injection hv1' with h1 _ _
            injection h1 with h1
            subst h1
            exact ⟨o1', ha1'⟩
          
          have hL1 : Hid (∀ W, Below wr.heap.size wr W → Lies W ⟨a1.block, o1, none⟩ (chA c)) := Lib.hid (HLc.out k o1 c hc ha1)
          obtain ⟨kd, hkd⟩ : ∃ z, c.kind = z := ⟨_, rfl⟩
          obtain ⟨x, hx⟩ : ∃ x, anyAt l k = x := ⟨_, rfl⟩
          have CF : Hid (∀ W, Below wr.heap.size wr W → W.cell? ⟨G, k, none⟩ = some (.int .u8 x)) := Lib.hid fun W b => r8_cell HRa.out (HBE.out.trans (b.mono HBE.out.size)) (by rw [HROW.out k hkn, hx])
          have hkz : (k : Int) < n := by omega
          have HKD := Lib.hid hkd
          have HC := Lib.hid hc
          have HXX := Lib.hid hx
          clear hv1 hab1 hc hkd hx
          go_wp2_with (first
            | (with_reducible refine ldC (o := ⟨some 58, _, _, _, _, _⟩) rfl (.tmp 57) rfl ⟨a1.block, o1, none⟩ rfl c (hL1.out _ (Below.refl _ _)) ?_)
            | (with_reducible refine nwC (o1 := ⟨some 8, _, _, _, _, _⟩) rfl rfl 8 rfl rfl (.tmp 58) rfl rfl c (fun _ => rfl) (fun _ => rfl) ?_; intro w8 b8 B8; refine Mk.out ?_))
          constructor
          have HB8 := Lib.hid b8
          have g1 := CF.out w8 b8
          obtain ⟨p1, p2, p3⟩ := (HX7.out.below b8).q
          have B84 : w8.cell? ⟨wr.heap.size, 4, none⟩ = some (.int .u8 kd) := (B8.cell 4).trans (by rw [← HKD.out]; rfl)
          have B80 : w8.cell? ⟨wr.heap.size, 0, none⟩ = some (.int .i32 c.r) := B8.cell 0
          clear B8 q1 q2 q3
          by_cases hk0 : k = 0
          · subst hk0
            obtain rfl : x = 0 := HXX.out.symm
            go_wp2_with fail
            go_roundg (n - (1))
            case measure => omega
            case rel => exact ⟨1, by go_num, by omega, by first | rfl | trivial, HBE.out.trans (HB8.out.mono HBE.out.size)⟩
          obtain ⟨j, hj⟩ : ∃ j, k = j + 1 := ⟨k - 1, by omega⟩
          have hwk : IntKind.i64.wrap ((k : Int) - 1) = (j : Int) := (IntWalk.i64_in _ (by omega)).trans (by omega)
          have hkp : (0 : Int) < k := by omega
          have hjn : (j : Int) < n := by omega
          obtain ⟨d, hd⟩ := at_ (l := l) (k := j) (by rw [HN.out]; omega)
          obtain ⟨o0, ha0⟩ := HLo.out j d hd
          have hL0 : Hid (∀ W, Below wr.heap.size wr W → W.cell? ⟨a1.block, o0 + 4, none⟩ = some (.int .u8 d.kind)) := Lib.hid fun W b => lies_cell (HLc.out j o0 d hd ha0 W b) 4 rfl
          obtain ⟨ka, hka⟩ : ∃ z, d.kind = z := ⟨_, rfl⟩
          have HXV : Hid (x = if ka = 5 ∨ kd = 5 ∨ kd = 1 ∨ kd = 2 ∨ markC c = true then 0 else 1) := Lib.hid (by
            have h1 := HXX.out
            have h2 := HC.out
            rw [hj] at h1 h2
            simp only [anyAt, hd, h2] at h1
            rw [← h1, ← hka, ← HKD.out])
          rw [hka] at hL0
          clear hd hka hj hk0
          have g0 := hL0.out w8 b8
          clear b8
          by_cases ekd5 : kd = 5
          · subst ekd5
            obtain rfl : x = 0 := HXV.out.trans (by simp)
            go_wp2_with fail
            go_roundg (n - (k + 1))
            case measure => omega
            case rel => exact ⟨k + 1, by go_num, by omega, by first | rfl | trivial, HBE.out.trans (HB8.out.mono HBE.out.size)⟩
          have nkd5 : (kd == 5) = false := by simpa using ekd5
          by_cases ekd1 : kd = 1
          · subst ekd1
            obtain rfl : x = 0 := HXV.out.trans (by simp)
            go_wp2_with fail
            go_roundg (n - (k + 1))
            case measure => omega
            case rel => exact ⟨k + 1, by go_num, by omega, by first | rfl | trivial, HBE.out.trans (HB8.out.mono HBE.out.size)⟩
          have nkd1 : (kd == 1) = false := by simpa using ekd1
          by_cases ekd2 : kd = 2
          · subst ekd2
            obtain rfl : x = 0 := HXV.out.trans (by simp)
            go_wp2_with fail
            go_roundg (n - (k + 1))
            case measure => omega
            case rel => exact ⟨k + 1, by go_num, by omega, by first | rfl | trivial, HBE.out.trans (HB8.out.mono HBE.out.size)⟩
          have nkd2 : (kd == 2) = false := by simpa using ekd2
          by_cases eka5 : ka = 5
          · subst eka5
            obtain rfl : x = 0 := HXV.out.trans (by simp)
            go_wp2_with fail
            go_roundg (n - (k + 1))
            case measure => omega
            case rel => exact ⟨k + 1, by go_num, by omega, by first | rfl | trivial, HBE.out.trans (HB8.out.mono HBE.out.size)⟩
          have nka5 : (ka == 5) = false := by simpa using eka5
          by_cases e0 : kd = 0
          · subst e0
            obtain ⟨b, hb⟩ : ∃ b, (clsOf c.r == 9) = b := ⟨_, rfl⟩
            have hmk : markC c = b := by unfold markC; rw [HKD.out, ← hb]; simp
            have HXW := HXV.out
            rw [hmk] at HXW
            have HHB := Lib.hid hb
            clear hmk hb
            cases b
            · obtain rfl : x = 1 := HXW.trans (if_neg (by intro h; rcases h with h | h | h | h | h <;> first | exact eka5 h | exact ekd5 h | exact ekd1 h | exact ekd2 h | cases h))
              clear HXW
              go_wp2_with fail
              refine (cmark_any c.r _ false HHB.out).mono ?_
              rintro e w9 ⟨rfl, b9⟩
              have g9 := CF.out w9 (below_seq HB8.out b9)
              go_wp2_with fail
              go_roundg (n - (k + 1))
              case measure => omega
              case rel => exact ⟨k + 1, by go_num, by omega, by first | rfl | trivial, HBE.out.trans ((below_seq HB8.out b9).mono HBE.out.size)⟩
            · obtain rfl : x = 0 := HXW.trans (if_pos (.inr (.inr (.inr (.inr rfl)))))
              clear HXW
              go_wp2_with fail
              refine (cmark_any c.r _ true HHB.out).mono ?_
              rintro e w9 ⟨rfl, b9⟩
              have g9 := CF.out w9 (below_seq HB8.out b9)
              go_wp2_with fail
              go_roundg (n - (k + 1))
              case measure => omega
              case rel => exact ⟨k + 1, by go_num, by omega, by first | rfl | trivial, HBE.out.trans ((below_seq HB8.out b9).mono HBE.out.size)⟩
          have n0 : (kd == 0) = false := by simpa using e0
          have hmk : markC c = false := by unfold markC; rw [HKD.out]; simp [e0]
          obtain rfl : x = 1 := HXV.out.trans (by rw [hmk]; exact if_neg (by intro h; rcases h with h | h | h | h | h <;> first | exact eka5 h | exact ekd5 h | exact ekd1 h | exact ekd2 h | cases h))
          go_wp2_with fail
          go_roundg (n - (k + 1))
          case measure => omega
          case rel => exact ⟨k + 1, by go_num, by omega, by first | rfl | trivial, HBE.out.trans (HB8.out.mono HBE.out.size)⟩
        · obtain rfl : k = n := by omega
          have HB7 := Lib.hid (below_seq HB6.out HBE.out)
          go_wp2_with fail
          refine (chead_any _).mono ?_
          rintro e w9 ⟨rfl, b9⟩
          go_wp2_with fail
          go_ret
          exact ⟨rfl, below_seq HB7.out b9⟩
end Go.Proofs.Ytnoenccpbbkdeaa
