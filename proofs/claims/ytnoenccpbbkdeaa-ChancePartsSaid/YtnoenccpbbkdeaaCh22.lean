/- The walk of ChanceParts: for every two lists the law returns true. Conditions: the slices read as the lists. -/
import Derived.Test.YtnoenccpbbkdeaaCh21
namespace Go.Proofs.Ytnoenccpbbkdeaa
open Go.ChangeShapes Go.WideShapes Go.ChangeAt Go.RowKit Go.Shelf
open Wh (Cr)
open Ch

set_option maxRecDepth 100000 in
set_option maxHeartbeats 8000000 in
theorem lawChanceParts_any (l yl : List Cr) (ss ts : List Sty) (rs qs : List Int) (v1 u1 v2 u2 v3 u3 : Value) (w : World) (hR : RwC w v1 l) (hR' : RwC w u1 yl) (hS : Ss w v2 ss) (hS' : Ss w u2 ts) (hI : RI w v3 rs) (hI' : RI w u3 qs) :
    Calls Try.prog 6 #[.agg #[v1, v2, v3], .agg #[u1, u2, u3]] w fun e w' => e = .returned (.bool true) ∧ Below w.heap.size w w' := by
  have HR := Lib.hid hR
  have HS := Lib.hid hS
  have HI := Lib.hid hI
  have HR' := Lib.hid hR'
  have HS' := Lib.hid hS'
  have HI' := Lib.hid hI'
  obtain ⟨A1, c1, rfl⟩ := hR.form
  obtain ⟨A2, c2, rfl⟩ := hS.form
  obtain ⟨A3, c3, rfl⟩ := hI.form
  obtain ⟨D1, d1, rfl⟩ := hR'.form
  obtain ⟨D2, d2, rfl⟩ := hS'.form
  obtain ⟨D3, d3, rfl⟩ := hI'.form
  obtain ⟨n, hn⟩ : ∃ n, l.length = n := ⟨_, rfl⟩
  obtain ⟨m, hm⟩ : ∃ n, ss.length = n := ⟨_, rfl⟩
  obtain ⟨q, hq⟩ : ∃ n, rs.length = n := ⟨_, rfl⟩
  obtain ⟨yn, hyn⟩ : ∃ n, yl.length = n := ⟨_, rfl⟩
  obtain ⟨ym, hym⟩ : ∃ n, ts.length = n := ⟨_, rfl⟩
  obtain ⟨yq, hyq⟩ : ∃ n, qs.length = n := ⟨_, rfl⟩
  have HN := Lib.hid hn
  have HM := Lib.hid hm
  have HQ := Lib.hid hq
  have HYN := Lib.hid hyn
  have HYM := Lib.hid hym
  have HYQ := Lib.hid hyq
  rw [r64_len, hq] at HI ⊢
  rw [r64_len, hyq] at HI' ⊢
  rw [hm] at HS ⊢
  rw [hn] at HR ⊢
  rw [hym] at HS' ⊢
  rw [hyn] at HR' ⊢
  clear hR hS hI hR' hS' hI' hn hm hq hyn hym hyq
  go_enter Try.func6, Try.ntmps6
  go_wp2_with (first
    | (refine bxLV (o := ⟨some 2, _, _, _, _, _⟩) rfl (.tmp 0) rfl rfl ?_; intro w1 b1 E1)
    | (refine bxLV (o := ⟨some 3, _, _, _, _, _⟩) rfl (.tmp 1) rfl rfl ?_; intro w2 b2 E2; refine Mk.out ?_))
  constructor
  have b12 := below_seq b1 b2
  have HX : Hid (Bx w2 w.heap.size A1 A2 A3 n m q c1 c2 c3 l ss rs) := Lib.hid ⟨E1.keep (S := fun _ => False) (Mod.of_below b2) id, HR.out.below b12, HS.out.below b12, HI.out.below b12⟩
  have HY : Hid (Bx w2 w1.heap.size D1 D2 D3 yn ym yq d1 d2 d3 yl ts qs) := Lib.hid ⟨E2, HR'.out.below b12, HS'.out.below b12, HI'.out.below b12⟩
  have HB2 := Lib.hid b12
  clear E1 E2 b12 b1 b2 HR HS HI HR' HS' HI'
  obtain ⟨q1, q2, q3⟩ := HX.out.q
  go_wp2_with fail
  refine (cgreat_any _ _ _ _ _ _ _ _ _ _).mono ?_
  rintro e w3 ⟨rfl, b3⟩
  have HB3 := Lib.hid (below_seq HB2.out b3)
  have HX3 := Lib.hid (HX.out.below b3)
  have HY3 := Lib.hid (HY.out.below b3)
  clear b3 HX HY q1 q2 q3
  by_cases hg : (decide (100 < n) || decide (40 < m) || decide (150 < q)) = true
  · rw [hg]
    go_wp2_with fail
    refine (chead_any _).mono ?_
    rintro e w4 ⟨rfl, b4⟩
    go_wp2_with fail
    go_ret
    exact ⟨rfl, below_seq HB3.out b4⟩
  have HG := Lib.hid (great_no hg)
  rw [Bool.not_eq_true] at hg
  rw [hg]
  clear hg
  obtain ⟨q1, q2, q3⟩ := HY3.out.q
  go_wp2_with fail
  refine (cgreat_any _ _ _ _ _ _ _ _ _ _).mono ?_
  rintro e w4 ⟨rfl, b4⟩
  have HB4 := Lib.hid (below_seq HB3.out b4)
  have HX4 := Lib.hid (HX3.out.below b4)
  have HY4 := Lib.hid (HY3.out.below b4)
  clear b4 HX3 HY3 q1 q2 q3
  by_cases hg : (decide (100 < yn) || decide (40 < ym) || decide (150 < yq)) = true
  · rw [hg]
    go_wp2_with fail
    refine (chead_any _).mono ?_
    rintro e w5 ⟨rfl, b5⟩
    go_wp2_with fail
    go_ret
    exact ⟨rfl, below_seq HB4.out b5⟩
  have HYG := Lib.hid (great_no hg)
  rw [Bool.not_eq_true] at hg
  rw [hg]
  clear hg
  have HL1 : Hid (l.length ≤ 100000) := Lib.hid (by rw [HN.out]; have := HG.out.1; omega)
  have HL2 : Hid (yl.length ≤ 100000) := Lib.hid (by rw [HYN.out]; have := HYG.out.1; omega)
  obtain ⟨q1, q2, q3⟩ := HX4.out.q
  go_wp2_with fail
  by_cases hmx : mayC l ss.length rs = true
  rotate_left
  · refine (chances_no ss l rs _ _ _ w4 HX4.out.ch HX4.out.st HX4.out.ru HL1.out (by simpa using hmx)).mono ?_
    rintro e w5 ⟨rfl, b5⟩
    have HB5 := Lib.hid (below_seq HB4.out b5)
    have HY5 := Lib.hid (HY4.out.below b5)
    clear b5 q1 q2 q3 hmx
    obtain ⟨q1, q2, q3⟩ := HY5.out.q
    go_wp2_with fail
    refine (chances_both ts yl qs _ _ _ w5 HY5.out.ch HY5.out.st HY5.out.ru HL2.out).mono ?_
    obtain ⟨er, her⟩ : ∃ L : Int, (if mayC yl ts.length qs = true then 0 else 2) = L := ⟨_, rfl⟩
    rw [her]
    rintro e w6 ⟨u6, rfl, _, b6⟩
    have HB6 := Lib.hid (below_seq HB5.out b6)
    clear b6 her
    go_wp2_with fail
    refine (chead_any _).mono ?_
    rintro e w7 ⟨rfl, b7⟩
    go_wp2_with fail
    go_ret
    exact ⟨rfl, below_seq HB6.out b7⟩
  refine (chances_ok ss l rs _ _ _ w4 HX4.out.ch HX4.out.st HX4.out.ru HL1.out hmx).mono ?_
  rintro e w5 ⟨G1, rfl, _, Ra, b5⟩
  rw [HN.out] at Ra ⊢
  have HMX := Lib.hid hmx
  have HRa := Lib.hid Ra
  have HB5 := Lib.hid (below_seq HB4.out b5)
  have HX5 := Lib.hid (HX4.out.below b5)
  have HY5 := Lib.hid (HY4.out.below b5)
  clear b5 q1 q2 q3 hmx Ra HX4 HY4
  obtain ⟨q1, q2, q3⟩ := HY5.out.q
  go_wp2_with fail
  by_cases hmy : mayC yl ts.length qs = true
  rotate_left
  · refine (chances_no ts yl qs _ _ _ w5 HY5.out.ch HY5.out.st HY5.out.ru HL2.out (by simpa using hmy)).mono ?_
    rintro e w6 ⟨rfl, b6⟩
    have HB6 := Lib.hid (below_seq HB5.out b6)
    clear b6 hmy
    go_wp2_with fail
    refine (chead_any _).mono ?_
    rintro e w7 ⟨rfl, b7⟩
    go_wp2_with fail
    go_ret
    exact ⟨rfl, below_seq HB6.out b7⟩
  refine (chances_ok ts yl qs _ _ _ w5 HY5.out.ch HY5.out.st HY5.out.ru HL2.out hmy).mono ?_
  rintro e w6 ⟨G2, rfl, _, Rb, b6⟩
  rw [HYN.out] at Rb ⊢
  have HMY := Lib.hid hmy
  have HRb := Lib.hid Rb
  have HRa := Lib.hid (Row.below HRa.out b6)
  have HB6 := Lib.hid (below_seq HB5.out b6)
  have HX6 := Lib.hid (HX5.out.below b6)
  have HY6 := Lib.hid (HY5.out.below b6)
  clear b6 q1 q2 q3 hmy Rb HX5 HY5
  have FC : Hid (∀ W, RwC W (.slice A1 n c1) l → Flat W (.slice A1 n c1) n (flatC l)) := Lib.hid fun W h => by
    have := chFlat h
    rwa [HN.out] at this
  have FI : Hid (∀ W, RI W (.slice A3 q c3) rs → Flat W (.slice A3 q c3) q (r64 rs)) := Lib.hid fun W h => by
    have := riFlat h
    rwa [HQ.out] at this
  have FS : Hid (∀ W, Ss W (.slice A2 m c2) ss → Flat W (.slice A2 m c2) m (flatS ss)) := Lib.hid fun W h => by
    have := ssFlat h
    rwa [HM.out] at this
  have FY : Hid (∀ W, Ss W (.slice D2 ym d2) ts → Flat W (.slice D2 ym d2) ym (flatS ts)) := Lib.hid fun W h => by
    have := ssFlat h
    rwa [HYM.out] at this
  have FC2 : Hid ((flatC l).length = n * 5) := Lib.hid (by rw [flatC_len, HN.out])
  have FI2 : Hid ((r64 rs).length = q * 1) := Lib.hid (by rw [r64_len, HQ.out, Nat.mul_one])
  have FS2 : Hid ((flatS ss).length = m * 9) := Lib.hid (by rw [flatS_len, HM.out])
  have FY2 : Hid ((flatS ts).length = ym * 9) := Lib.hid (by rw [flatS_len, HYM.out])
  obtain ⟨hn9, hm9, hq9⟩ := HG.out
  obtain ⟨hyn9, hym9, hyq9⟩ := HYG.out
  obtain ⟨q1, q2, q3⟩ := HX6.out.q
  /- the characters -/
  go_wp2_with (first
    | (refine bs0G rfl rfl 5 b0C ?_; intro w7 b7 O7; obtain ⟨p1, p2, p3⟩ := (HX6.out.below b7).q)
    | (refine wpList_app0 (m := n) elmC rfl (.tmp 55) (.tmp 57) rfl rfl rfl (flatC l) O7 (FC.out _ (HX6.out.below b7).ch) FC2.out (flatC_one l) b7.size (by omega) ?_; intro gl cl w8 O8 b8; refine Mk.out ?_))
  constructor
  have HB8 := Lib.hid (b7.trans b8)
  have HO8 := Lib.hid O8
  clear O7 O8 b7 b8 p1 p2 p3 q1 q2 q3
  go_wp2_with (refine apH elhC (o1 := ⟨some 62, _, _, _, _, _⟩) rfl (.tmp 61) rfl 62 rfl rfl (.tmp 59) rfl (.agg (chA ⟨0, (m : Int), 0, 0, 5⟩)) (chA ⟨0, (m : Int), 0, 0, 5⟩) rfl rfl (oneC _) (bsC _) (.slice (some ⟨gl, 0, none⟩) n cl) (fun _ => rfl) (fun _ => rfl) w6.heap.size n (flatC l) HO8.out (by omega) HB8.out.size ?_; intro u9 vL w9 O9 b9 _ _; refine Mk.out ?_)
  constructor
  have HOL := Lib.hid (ownC.snoc HN.out O9)
  have HB9 := Lib.hid (HB8.out.trans b9)
  have HX9 := Lib.hid (HX6.out.below HB9.out)
  clear O9 b9 HB8 HO8
  /- the rules -/
  go_wp2_with (first
    | (refine bs0G rfl rfl 1 b0I ?_; intro w10 b10 O10; obtain ⟨p1, p2, p3⟩ := (HX9.out.below b10).q)
    | (refine wpList_app0 (m := q) elmI rfl (.tmp 64) (.tmp 66) rfl rfl rfl (r64 rs) O10 (FI.out _ (HX9.out.below b10).ru) FI2.out (r64_one rs) b10.size (by omega) ?_; intro gr cr w11 O11 b11; refine Mk.out ?_))
  constructor
  have HB11 := Lib.hid (b10.trans b11)
  have HO11 := Lib.hid O11
  clear O10 O11 b10 b11 p1 p2 p3
  go_wp2_with (refine apH elhI (o1 := ⟨some 69, _, _, _, _, _⟩) rfl (.tmp 68) rfl 69 rfl rfl (.tmp 67) rfl (.int .i64 (m : Int)) #[.int .i64 (m : Int)] rfl rfl (by simp [Value.oneCell']) (bsI _) (.slice (some ⟨gr, 0, none⟩) q cr) (fun _ => rfl) (fun _ => rfl) w9.heap.size q (r64 rs) HO11.out (by omega) HB11.out.size ?_; intro u12 vR w12 O12 b12 _ _; refine Mk.out ?_)
  constructor
  have HOR := Lib.hid (ownI.snoc HQ.out O12)
  have HB12' := Lib.hid (HB11.out.trans b12)
  have HOL12 : Hid (ownC w6.heap.size w12 vL (l ++ [⟨0, (m : Int), 0, 0, 5⟩])) := Lib.hid (own_below HOL.out HB12'.out)
  have HAP : Hid (Apart vL vR) := Lib.hid (apart_of HOL.out HOR.out (Nat.le_refl _))
  have HB12 := Lib.hid (HB9.out.trans (HB12'.out.mono HB9.out.size))
  have HX12 := Lib.hid (HX6.out.below HB12.out)
  have HY12 := Lib.hid (HY6.out.below HB12.out)
  clear O12 b12 HB11 HO11 HX9
  /- the styles -/
  go_wp2_with (first
    | (refine bs0G rfl rfl 9 b0S ?_; intro w13 b13 O13; obtain ⟨p1, p2, p3⟩ := (HX12.out.below b13).q)
    | (refine wpList_app0 (m := m) elmS rfl (.tmp 71) (.tmp 73) rfl rfl rfl (flatS ss) O13 (FS.out _ (HX12.out.below b13).st) FS2.out (flatS_one ss) b13.size (by omega) ?_; intro gs cs w14 O14 b14; refine Mk.out ?_))
  constructor
  have HB14 := Lib.hid (b13.trans b14)
  have HO14 := Lib.hid O14
  clear O13 O14 b13 b14 p1 p2 p3
  go_wp2_with (refine apH elhS (o1 := ⟨some 76, _, _, _, _, _⟩) rfl (.tmp 75) rfl 76 rfl rfl (.tmp 74) rfl (.agg Sty.zero.cells) Sty.zero.cells rfl rfl (one23 _) (bsS _) (.slice (some ⟨gs, 0, none⟩) m cs) (fun _ => rfl) (fun _ => rfl) w12.heap.size m (flatS ss) HO14.out (by omega) HB14.out.size ?_; intro u15 vT w15 O15 b15 _ _; refine Mk.out ?_)
  constructor
  have HB15 := Lib.hid (HB14.out.trans b15)
  have HO15 := Lib.hid O15
  have HY15 := Lib.hid (HY12.out.below HB15.out)
  clear O15 b15 HB14 HO14
  obtain ⟨q1, q2, q3⟩ := HY15.out.q
  go_wp2_with (refine wpList_app elmS rfl (.tmp 78) (.tmp 80) rfl vT _ rfl rfl w12.heap.size (m + 1) ym _ (flatS ts) HO15.out (FY.out _ HY15.out.st) FY2.out (flatS_one ts) HB15.out.size (by omega) ?_; intro vS w16 O16 b16; refine Mk.out ?_)
  constructor
  have HB16' := Lib.hid (HB15.out.trans b16)
  have HOS : Hid (ownS w12.heap.size w16 vS (ss ++ Sty.zero :: ts)) := Lib.hid (by
    unfold ownS
    rw [show ss ++ Sty.zero :: ts = ss ++ [Sty.zero] ++ ts by simp, flatS_app, flatS_snoc, List.length_append, List.length_append, HM.out, HYM.out]
    exact O16)
  have HOL16 : Hid (ownC w6.heap.size w16 vL (l ++ [⟨0, (m : Int), 0, 0, 5⟩])) := Lib.hid (own_below HOL12.out HB16'.out)
  have HOR16 : Hid (ownI w6.heap.size w16 vR (rs ++ [(m : Int)])) := Lib.hid (own_base (own_below HOR.out HB16'.out) HB9.out.size)
  have HAQ : Hid (Apart vS vL) := Lib.hid (apart_of HOL12.out HOS.out (Nat.le_refl _)).symm
  have HAR : Hid (Apart vS vR) := Lib.hid (apart_of HOR.out HOS.out (Nat.le_refl _)).symm
  have HOS16 : Hid (ownS w6.heap.size w16 vS (ss ++ Sty.zero :: ts)) := Lib.hid (own_base HOS.out HB12.out.size)
  have HB16 := Lib.hid (HB12.out.trans (HB16'.out.mono HB12.out.size))
  clear O16 b16 HB15 HO15 HY15 q1 q2 q3 HB16' HOS HOL HOL12 HOR HB12' HX12 HY12
  go_wp2_with fail
  go_loopg [10, 11, 13] yn (fun kx s10 s11 s13 wr => ∃ (k : Nat) (vl vr : Value), vl = s10 ∧ vr = s11 ∧ s13 = .int .i64 (k : Int) ∧ k ≤ yn ∧ kx = yn - k ∧ Below w6.heap.size w6 wr ∧
    ownC w6.heap.size wr vl ((l ++ [⟨0, (m : Int), 0, 0, 5⟩]) ++ (yl.take k).map (shN ((m : Int) + 1))) ∧ ownI w6.heap.size wr vr ((rs ++ [(m : Int)]) ++ (shR (m : Int) qs).take k) ∧ ownS w6.heap.size wr vS (ss ++ Sty.zero :: ts) ∧ Apart vr vl ∧ Apart vS vl ∧ Apart vS vr)
  case atStart => exact ⟨0, _, _, rfl, rfl, rfl, Nat.zero_le _, by first | rfl | omega, HB16.out, by rw [List.take_zero, List.map_nil, List.append_nil]; exact HOL16.out, by rw [List.take_zero, List.append_nil]; exact HOR16.out, HOS16.out, HAP.out.symm, HAQ.out, HAR.out⟩
  case round =>
    obtain ⟨k, vl, vr, rfl, rfl, rfl, hk, rfl, bel, OL, OR, OS, AP, AQ, AR⟩ := hrel
    have HBE := Lib.hid bel
    have HOL := Lib.hid OL
    have HOR := Lib.hid OR
    have HOS := Lib.hid OS
    have HAP := Lib.hid AP
    have HAQ := Lib.hid AQ
    have HAR := Lib.hid AR
    have HYr := Lib.hid (HY6.out.below bel)
    clear bel OL OR OS AP AQ AR
    obtain ⟨q1, q2, q3⟩ := HYr.out.q
    by_cases hkn : k < yn
    · obtain ⟨c, hc⟩ := at_ (l := yl) (k := k) (by rw [HYN.out]; exact hkn)
      obtain ⟨a1, cp1, o1, hv1, hab1, ha1, hL⟩ := HYr.out.ch.get (Below.refl _ _) hc
      rw [HYN.out] at hv1
      obtain ⟨rfl, rfl⟩ : D1 = some a1 ∧ d1 = cp1 := by injection hv1 with h1 _ h2; exact ⟨h1, h2⟩
      have HLi := Lib.hid hL
      have hyl : yl.length = qs.length := (mayC_is HMY.out).1
      have hqn : yq = yn := by rw [← HYQ.out, ← hyl, HYN.out]
      obtain ⟨r, hr⟩ := at_ (l := qs) (k := k) (by rw [← hyl, HYN.out]; exact hkn)
      have hcn := (mayC_is HMY.out).2.1 c (List.mem_of_getElem? hc)
      have hrn : 0 < k → 0 ≤ r ∧ r < (ym : Int) := fun h0 => by
        have := (mayC_is HMY.out).2.2 k r h0 hr
        rw [HYM.out] at this
        exact this
      rw [HYM.out] at hcn
      obtain ⟨nd, hnd⟩ : ∃ z, c.node = z := ⟨_, rfl⟩
      rw [hnd] at hcn
      have hnd0 := hcn.1
      have hnd1 := hcn.2.1
      have hkz : (k : Int) < yn := by omega
      have HC := Lib.hid hc
      have HRR := Lib.hid hr
      have HRN := Lib.hid hrn
      have HND := Lib.hid hnd
      have hlenL : ((l ++ [(⟨0, (m : Int), 0, 0, 5⟩ : Cr)]) ++ (yl.take k).map (shN ((m : Int) + 1))).length < 4194304 := by
        rw [List.length_append, List.length_append, List.length_map, List.length_take, HN.out, List.length_singleton]
        omega
      have hlenR : ((rs ++ [(m : Int)]) ++ (shR (m : Int) qs).take k).length < 4194304 := by
        rw [List.length_append, List.length_append, List.length_take, HQ.out, List.length_singleton]
        omega
      have HLL := Lib.hid hlenL
      have HLR := Lib.hid hlenR
      have HQN := Lib.hid hqn
      clear hv1 hab1 hL hc hr hcn hrn hnd hyl hlenL hlenR hqn
      go_wp2_with (first
        | (with_reducible refine ldC (o := ⟨some 93, _, _, _, _, _⟩) rfl (.tmp 92) rfl ⟨a1.block, o1, none⟩ rfl c HLi.out ?_)
        | (with_reducible refine nwC (o1 := ⟨some 14, _, _, _, _, _⟩) rfl rfl 14 rfl rfl (.tmp 93) rfl rfl c (fun _ => rfl) (fun _ => rfl) ?_; intro wA bA BA; refine Mk.out ?_))
      constructor
      have f1 : wA.cell? ⟨wr.heap.size, 1, none⟩ = some (.int .i64 nd) := (BA.cell 1).trans (by rw [← HND.out]; rfl)
      have f2 := BA.frozen 1
      have BA2 : Blk (wA.setCell ⟨wr.heap.size, 1, none⟩ (.int .i64 (nd + (m : Int) + 1))) wr.heap.size 39 (chA (shN ((m : Int) + 1) c)) := by
        have h := BA.set_ 1 (.int .i64 (nd + (m : Int) + 1))
        rw [show nd + (m : Int) + 1 = c.node + ((m : Int) + 1) by rw [HND.out]; omega] at h ⊢
        rw [set_node] at h
        exact h
      have mX : Mod (fun x => x = wr.heap.size) wr (wA.setCell ⟨wr.heap.size, 1, none⟩ (.int .i64 (nd + (m : Int) + 1))) := Mod.setCell (S := fun x => x = wr.heap.size) (Mod.of_below bA) (.inl rfl) _
      have belX : Below w6.heap.size w6 (wA.setCell ⟨wr.heap.size, 1, none⟩ (.int .i64 (nd + (m : Int) + 1))) := (HBE.out.trans (bA.mono HBE.out.size)).setCell (by exact HBE.out.size) _
      have HOLx := Lib.hid (own_keep HOL.out mX (fun j hj h => by have := own_lt HOL.out hj; omega))
      have HORx := Lib.hid (own_keep HOR.out mX (fun j hj h => by have := own_lt HOR.out hj; omega))
      have HOSx := Lib.hid (own_keep HOS.out mX (fun j hj h => by have := own_lt HOS.out hj; omega))
      have HLx := Lib.hid BA2.lies
      have HBX := Lib.hid belX
      clear BA BA2 mX belX q1 q2 q3 bA
      go_wp2_with (with_reducible refine ldC (o := ⟨some 101, _, _, _, _, _⟩) rfl (.tmp 14) rfl ⟨wr.heap.size, 0, none⟩ rfl (shN ((m : Int) + 1) c) HLx.out ?_; refine Mk.out ?_)
      constructor
      go_wp2_with (refine apH elhC (o1 := ⟨some 102, _, _, _, _, _⟩) rfl (.tmp 101) rfl 102 rfl rfl (.tmp 100) rfl (.agg (chA (shN ((m : Int) + 1) c))) (chA (shN ((m : Int) + 1) c)) rfl rfl (oneC _) (bsC _) vl (fun _ => rfl) (fun _ => rfl) w6.heap.size _ _ HOLx.out HLL.out HBX.out.size ?_; intro u20 vl2 wC OC bC mC sC; refine Mk.out ?_)
      constructor
      have OCs := ownC.snoc rfl OC
      rw [show ((l ++ [(⟨0, (m : Int), 0, 0, 5⟩ : Cr)]) ++ (yl.take k).map (shN ((m : Int) + 1))) ++ [shN ((m : Int) + 1) c] = (l ++ [(⟨0, (m : Int), 0, 0, 5⟩ : Cr)]) ++ (yl.take (k + 1)).map (shN ((m : Int) + 1)) by rw [List.take_add_one, HC.out]; simp] at OCs
      have HOLc := Lib.hid OCs
      have HORc := Lib.hid (Apart.keep HAP.out HORx.out mC)
      have HAPc := Lib.hid (Apart.step HAP.out HORx.out sC)
      have HOSc := Lib.hid (Apart.keep HAQ.out HOSx.out mC)
      have HAQc := Lib.hid (Apart.step HAQ.out HOSx.out sC)
      have HBC := Lib.hid (HBX.out.trans bC)
      have HYc := Lib.hid (HY6.out.below HBC.out)
      clear OC OCs bC mC sC f1 f2 HOLx HORx HOSx HLx HBX
      by_cases hk0 : k = 0
      · subst hk0
        go_wp2_with (with_reducible refine selO ⟨some 108, _, _, _, _, _⟩ ?_; refine Mk.out ?_)
        constructor
        go_wp2_with (refine apH elhI (o1 := ⟨some 108, _, _, _, _, _⟩) rfl (.tmp 107) rfl 108 rfl rfl (.tmp 106) rfl (.int .i64 (m : Int)) #[.int .i64 (m : Int)] rfl rfl (by simp [Value.oneCell']) (bsI _) vr (fun _ => rfl) (fun _ => rfl) w6.heap.size _ _ HORc.out HLR.out HBC.out.size ?_; intro u21 vr2 wD OD bD mD sD; refine Mk.out ?_)
        constructor
        have ODs := ownI.snoc rfl OD
        rw [show ((rs ++ [(m : Int)]) ++ (shR (m : Int) qs).take 0) ++ [(m : Int)] = (rs ++ [(m : Int)]) ++ (shR (m : Int) qs).take (0 + 1) by rw [List.take_add_one, shR_zero (by rw [HYQ.out, HQN.out]; exact hkn)]; simp] at ODs
        have HORd := Lib.hid ODs
        have HOLd := Lib.hid (Apart.keep HAPc.out.symm HOLc.out mD)
        have HAPd := Lib.hid (Apart.step HAPc.out.symm HOLc.out sD).symm
        have HOSd := Lib.hid (Apart.keep HAR.out HOSc.out mD)
        have HARd := Lib.hid (Apart.step HAR.out HOSc.out sD)
        have HBD := Lib.hid (HBC.out.trans bD)
        clear OD ODs bD mD sD
        go_wp2_with fail
        go_roundg (yn - 1)
        case measure => omega
        case rel => exact ⟨1, _, _, rfl, rfl, by go_num, by omega, by first | rfl | trivial, HBD.out, HOLd.out, HORd.out, HOSd.out, HAPd.out, HAQc.out, HARd.out⟩
      · have nk0 : ((k : Int) == 0) = false := by simpa using hk0
        obtain ⟨hr0, hr1⟩ := HRN.out (by omega)
        obtain ⟨a3, cp3, hv3, _, _, hcell3⟩ := Row.at_ HYc.out.ru (by rw [r64_len, HYQ.out, HQN.out]; omega)
        obtain rfl : D3 = some a3 := by injection hv3
        have g3 := hcell3 k _ (r64_at HRR.out)
        have hkq : (k : Int) < yq := by rw [HQN.out]; exact hkz
        obtain ⟨q1, q2, q3⟩ := HYc.out.q
        clear hv3 hcell3
        go_wp2_with (with_reducible refine selO ⟨some 119, _, _, _, _, _⟩ ?_; refine Mk.out ?_)
        constructor
        go_wp2_with (refine apH elhI (o1 := ⟨some 119, _, _, _, _, _⟩) rfl (.tmp 118) rfl 119 rfl rfl (.tmp 110) rfl (.int .i64 (r + (m : Int) + 1)) #[.int .i64 (r + (m : Int) + 1)] rfl rfl (by simp [Value.oneCell']) (bsI _) vr (fun _ => rfl) (fun _ => rfl) w6.heap.size _ _ HORc.out HLR.out HBC.out.size ?_; intro u21 vr2 wD OD bD mD sD; refine Mk.out ?_)
        constructor
        have ODs := ownI.snoc rfl OD
        rw [show ((rs ++ [(m : Int)]) ++ (shR (m : Int) qs).take k) ++ [r + (m : Int) + 1] = (rs ++ [(m : Int)]) ++ (shR (m : Int) qs).take (k + 1) by rw [List.take_add_one, shR_at (by omega) HRR.out, Int.add_assoc]; simp] at ODs
        have HORd := Lib.hid ODs
        have HOLd := Lib.hid (Apart.keep HAPc.out.symm HOLc.out mD)
        have HAPd := Lib.hid (Apart.step HAPc.out.symm HOLc.out sD).symm
        have HOSd := Lib.hid (Apart.keep HAR.out HOSc.out mD)
        have HARd := Lib.hid (Apart.step HAR.out HOSc.out sD)
        have HBD := Lib.hid (HBC.out.trans bD)
        clear OD ODs bD mD sD q1 q2 q3 g3
        go_wp2_with fail
        go_roundg (yn - (k + 1))
        case measure => omega
        case rel => exact ⟨k + 1, _, _, rfl, rfl, by go_num, by omega, by first | rfl | trivial, HBD.out, HOLd.out, HORd.out, HOSd.out, HAPd.out, HAQc.out, HARd.out⟩
    · obtain rfl : k = yn := by omega
      have hOL : ownC w6.heap.size wr vl (l ++ ⟨0, (m : Int), 0, 0, 5⟩ :: yl.map (shN ((m : Int) + 1))) := by
        have h := HOL.out
        rw [List.take_of_length_le (by rw [HYN.out]; exact Nat.le_refl _), List.append_assoc] at h
        exact h
      have hOR : ownI w6.heap.size wr vr (rs ++ (m : Int) :: shR (m : Int) qs) := by
        have h := HOR.out
        rw [List.take_of_length_le (by rw [shR_len, ← (mayC_is HMY.out).1, HYN.out]; exact Nat.le_refl _), List.append_assoc] at h
        exact h
      have HOL2 := Lib.hid hOL
      have HOR2 := Lib.hid hOR
      have hLA : (chn ss z0 l rs).length = n := by rw [chn_len _ _ _ _ (mayC_is HMX.out).1, HN.out]
      have hLB : (chn ts z0 yl qs).length = k := by rw [chn_len _ _ _ _ (mayC_is HMY.out).1, HYN.out]
      have hmp := mayC_parts Sty.zero (c := ⟨0, (ss.length : Int), 0, 0, 5⟩) HMX.out HMY.out rfl rfl
      have hpi := parts_is Sty.zero (c := ⟨0, (ss.length : Int), 0, 0, 5⟩) (ss.length : Int) HMX.out HMY.out rfl
      rw [HM.out] at hmp hpi
      have hlen3 : (l ++ (⟨0, (m : Int), 0, 0, 5⟩ : Cr) :: yl.map (shN ((m : Int) + 1))).length ≤ 100000 := by
        rw [List.length_append, List.length_cons, List.length_map, HN.out, HYN.out]
        omega
      have HML : Hid ((l ++ (⟨0, (m : Int), 0, 0, 5⟩ : Cr) :: yl.map (shN ((m : Int) + 1))).length ≤ 100000) := Lib.hid hlen3
      have HMP := Lib.hid hmp
      have HPI := Lib.hid hpi
      obtain ⟨LA, hla⟩ : ∃ LA, chn ss z0 l rs = LA := ⟨_, rfl⟩
      obtain ⟨LB, hlb⟩ : ∃ LB, chn ts z0 yl qs = LB := ⟨_, rfl⟩
      rw [hla] at hLA HRa HPI
      rw [hlb] at hLB HRb HPI
      have FA : Hid (∀ W, Below w6.heap.size w6 W → Flat W (.slice (some ⟨G1, 0, none⟩) n n) n (r8 LA)) := Lib.hid fun W b => by
        have := r8Flat (Row.below HRa.out b)
        rwa [hLA] at this
      have FB : Hid (∀ W, Below w6.heap.size w6 W → Flat W (.slice (some ⟨G2, 0, none⟩) k k) k (r8 LB)) := Lib.hid fun W b => by
        have := r8Flat (Row.below HRb.out b)
        rwa [hLB] at this
      have FA2 : Hid ((r8 LA).length = n * 1) := Lib.hid (by rw [r8_len, hLA, Nat.mul_one])
      have FB2 : Hid ((r8 LB).length = k * 1) := Lib.hid (by rw [r8_len, hLB, Nat.mul_one])
      have HLA := Lib.hid hLA
      have HLB := Lib.hid hLB
      have HLC : Hid ((LA ++ 0 :: LB).length ≤ 1048576) := Lib.hid (by
        rw [List.length_append, List.length_cons, hLA, hLB]
        omega)
      clear hOL hOR hLA hLB hmp hpi hlen3 hla hlb
      go_wp2_with (first
        | (refine bs0G rfl rfl 1 b08 ?_; intro w20 b20 O20)
        | (refine wpList_app0 (m := n) elm8 rfl (.tmp 121) (.tmp 122) rfl rfl rfl (r8 LA) O20 (FA.out _ (below_seq HBE.out b20)) FA2.out one8 b20.size (by omega) ?_; intro ga ca w21 O21 b21; refine Mk.out ?_))
      constructor
      have HB21 := Lib.hid (b20.trans b21)
      have HO21 := Lib.hid O21
      clear O20 O21 b20 b21
      go_wp2_with (refine apH elh8 (o1 := ⟨some 124, _, _, _, _, _⟩) rfl (.const (.int .u8 0)) rfl 124 rfl rfl (.tmp 123) rfl (.int .u8 0) #[.int .u8 0] rfl rfl (by simp [Value.oneCell']) (bs8 0) (.slice (some ⟨ga, 0, none⟩) n ca) (fun _ => rfl) (fun _ => rfl) wr.heap.size n (r8 LA) HO21.out (by omega) HB21.out.size ?_; intro u22 vW w22 O22 b22 _ _; refine Mk.out ?_)
      constructor
      have HB22 := Lib.hid (HB21.out.trans b22)
      have HO22 := Lib.hid O22
      clear O22 b22
      go_wp2_with (refine wpList_app elm8 rfl (.tmp 125) (.tmp 126) rfl vW _ rfl rfl wr.heap.size (n + 1) k _ (r8 LB) HO22.out (FB.out _ (below_seq HBE.out HB22.out)) FB2.out one8 HB22.out.size (by omega) ?_; intro vV w23 O23 b23; refine Mk.out ?_)
      constructor
      have HB23 := Lib.hid (HB22.out.trans b23)
      have HW : Hid (R8 w23 vV (LA ++ 0 :: LB)) := Lib.hid (by
        have h := own8.row (base := wr.heap.size) (W := w23) (u := vV) (l := LA ++ 0 :: LB) (by
          unfold own8
          rw [show r8 (LA ++ 0 :: LB) = r8 LA ++ (#[.int .u8 0] : Array Value).toList ++ r8 LB by simp [r8], List.length_append, List.length_cons, HLA.out, HLB.out, show n + (k + 1) = n + 1 + k by omega]
          exact O23)
        exact h)
      have HCs := Lib.hid (ownC.row (own_below HOL2.out HB23.out))
      have HRs := Lib.hid (ownI.row (own_below HOR2.out HB23.out))
      have HTs := Lib.hid (ownS.row (own_below HOS.out HB23.out))
      have HBF := Lib.hid (below_seq HB6.out (HBE.out.trans (HB23.out.mono HBE.out.size)))
      have CK : Hid (Calls Try.prog 10 #[vl, vS, vr] w23 fun e w' => ∃ G N, e = .returned (.tuple #[.slice (some ⟨G, 0, none⟩) N N, .int .i64 0]) ∧ R8 w' (.slice (some ⟨G, 0, none⟩) N N) (LA ++ 0 :: LB) ∧ Below w23.heap.size w23 w') := Lib.hid
        ((chances_ok (ss ++ Sty.zero :: ts) (l ++ (⟨0, (m : Int), 0, 0, 5⟩ : Cr) :: yl.map (shN ((m : Int) + 1))) (rs ++ (m : Int) :: shR (m : Int) qs) vl vS vr w23 HCs.out HTs.out HRs.out HML.out HMP.out).mono fun e w' ⟨G, h1, _, h2, h3⟩ => ⟨G, _, h1, by rw [← HPI.out]; exact h2, h3⟩)
      clear O23 b23 q1 q2 q3
      go_wp2_with fail
      refine CK.out.mono ?_
      rintro e w24 ⟨G3, N3, rfl, Rg, b24⟩
      have HBG := Lib.hid (below_seq HBF.out b24)
      have CS := Lib.hid (rsame10_is (LA ++ 0 :: LB) (LA ++ 0 :: LB) _ _ w24 Rg (Row.below HW.out b24) rfl HLC.out)
      clear Rg b24
      go_wp2_with fail
      refine CS.out.mono ?_
      rintro e w25 ⟨rfl, b25⟩
      go_wp2_with fail
      refine (chead_any _).mono ?_
      rintro e w26 ⟨rfl, b26⟩
      go_wp2_with fail
      go_ret
      exact ⟨rfl, below_seq (below_seq HBG.out b25) b26⟩
end Go.Proofs.Ytnoenccpbbkdeaa
