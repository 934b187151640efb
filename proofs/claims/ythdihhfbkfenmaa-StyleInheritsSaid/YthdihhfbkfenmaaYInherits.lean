/- The walk of StyleInherits. Conditions: the lists lie where the slices say; bits are 16-bit numbers. -/
import Derived.Test.YthdihhfbkfenmaaYInhM
import Derived.Test.YthdihhfbkfenmaaYHead
import Derived.Test.YthdihhfbkfenmaaYTail
namespace Go.Proofs.Ythdihhfbkfenmaa
open Go.ChangeShapes Go.WideShapes Go.ChangeAt Go.RowKit

set_option maxRecDepth 100000 in
set_option maxHeartbeats 32000000 in
theorem inherits_any (pv lv : Value) (ps : List Int) (ds : List Dcl) (z : Int) (d : Dcl) (w : World) (hP : Row (fun _ => False) w pv (ps.map (Value.int .i64))) (hD : Ds w lv ds) (h16 : Wf16 ds) (hd16 : d.n < 65536) (hz1 : -9223372036854775808 ≤ z) (hz2 : z ≤ 9223372036854775807) :
    Calls Try.prog 6 #[pv, lv, .agg (chg z d)] w fun e w' => e = .returned (.bool true) ∧ Below w.heap.size w w' := by
  have CH := Lib.hid head_any
  have CF := Lib.hid yfirst_any
  have CD := Lib.hid (fun w => ychkd_any d w hd16)
  have HP := Lib.hid hP
  have HD := Lib.hid hD
  have H16 := Lib.hid h16
  have CY : Hid (ps.length ≤ 60 → ∀ (W : World) (v : Value) (l : List Dcl), Below w.heap.size w W → Ds W v l → Wf16 l → l.length ≤ 60 → Calls Try.prog 19 #[.agg Sty.first.cells, pv, v] W (StyPost W .first ps l)) := fun h1 W v l hW h2 h3 h4 => ystyles_any .first pv v ps l W (hP.below hW) h2 h3 (by omega) (by omega)
  obtain ⟨A, c, rfl⟩ := hP.form
  obtain ⟨B, c2, rfl⟩ := hD.form
  rw [List.length_map] at HP CY ⊢
  obtain ⟨n, hl⟩ : ∃ n, ds.length = n := ⟨_, rfl⟩
  obtain ⟨m, hm⟩ : ∃ m, ps.length = m := ⟨_, rfl⟩
  have HL := Lib.hid hl
  have HM := Lib.hid hm
  rw [hl] at HD ⊢
  rw [hm] at HP CY ⊢
  clear hP hD h16 hl hm
  by_cases h1 : 60 < m
  · have h1z : (60 : Int) < m := by omega
    go_enter Try.func6, Try.ntmps6
    go_wp2_with (refine wpList_boxL rfl 56 (.tmp 2) rfl (chg z d) rfl (bxC z d) ?_; intro w1 b1 B1)
    refine (CH.out _).mono ?_
    rintro e wh ⟨rfl, bh⟩
    go_wp2_with fail
    go_ret
    exact ⟨rfl, below_seq b1 bh⟩
  · have h1z : (m : Int) ≤ 60 := by omega
    by_cases h2 : 60 < n
    · have h2z : (60 : Int) < n := by omega
      clear h1
      go_enter Try.func6, Try.ntmps6
      go_wp2_with (refine wpList_boxL rfl 56 (.tmp 2) rfl (chg z d) rfl (bxC z d) ?_; intro w1 b1 B1)
      refine (CH.out _).mono ?_
      rintro e wh ⟨rfl, bh⟩
      go_wp2_with fail
      go_ret
      exact ⟨rfl, below_seq b1 bh⟩
    · have h2z : (n : Int) ≤ 60 := by omega
      have CY2 := Lib.hid (CY.out (by omega))
      have hn60 : n ≤ 60 := by omega
      clear CY h1 h2
      go_enter Try.func6, Try.ntmps6
      go_wp2_with (refine wpList_boxL rfl 56 (.tmp 2) rfl (chg z d) rfl (bxC z d) ?_; intro w1 b1 B1)
      refine (CF.out _).mono ?_
      rintro e w2 ⟨rfl, b2⟩
      have b12 := below_seq b1 b2
      have B2 := B1.keep (S := fun _ => False) (Mod.of_below b2) id
      clear b1 B1 b2
      go_wp2_with fail
      refine (CY2.out _ _ _ b12 (HD.out.below b12) H16.out (by rw [HL.out]; exact hn60)).mono ?_
      rintro e w3 ⟨va, ze, la, rfl, hres, hss, b3⟩
      have b13 := below_seq b12 b3
      have B3 := B2.keep (S := fun _ => False) (Mod.of_below b3) id
      clear b12 B2 b3
      rcases hres with ⟨_, rfl, rfl⟩ | ⟨_, _, rfl, rfl⟩ | ⟨hok1, hok2, rfl, rfl⟩
      · clear hss
        go_wp2_with fail
        refine (CH.out _).mono ?_
        rintro e wh ⟨rfl, bh⟩
        go_wp2_with fail
        go_ret
        exact ⟨rfl, below_seq b13 bh⟩
      · clear hss
        go_wp2_with fail
        refine (CH.out _).mono ?_
        rintro e wh ⟨rfl, bh⟩
        go_wp2_with fail
        go_ret
        exact ⟨rfl, below_seq b13 bh⟩
      · have hlA := styK_len .first ps ds ds.length
        obtain ⟨LA, hLA⟩ : ∃ q, styK .first ps ds ds.length = q := ⟨_, rfl⟩
        have HLA := Lib.hid hLA
        rw [hLA] at hss hlA
        rw [HL.out] at hlA
        obtain ⟨A2, ca, hva⟩ := hss.form
        rw [hlA] at hva
        subst hva
        have HSA := Lib.hid hss
        have HlA := Lib.hid hlA
        have HO1 := Lib.hid hok1
        have HO2 := Lib.hid hok2
        clear hss hlA hok1 hok2 hLA
        have hz3 : B3 = B3 := rfl
        clear hz3
        have cz : w3.cell? ⟨w.heap.size, 0, none⟩ = some (.int .i64 z) := B3.cell 0
        rcases chkD_cases d with ⟨hvd, hcd⟩ | ⟨hvd, hcd⟩
        · rw [hcd] at CD
          have HVD := Lib.hid hvd
          clear hvd hcd
          by_cases hz0 : z < 0
          · go_wp2_with (refine ldDIf (by kernel_rfl) (.tmp 41) rfl _ rfl d (B3.part 1 (chg_d z d)) ?_)
            refine (CD.out _).mono ?_
            rintro e w4 ⟨rfl, b4⟩
            have cz4 : w4.cell? ⟨w.heap.size, 0, none⟩ = some (.int .i64 z) := (b4.cell (p := ⟨w.heap.size, 0, none⟩) B3.lt).trans cz
            go_wp2_with fail
            refine (CH.out _).mono ?_
            rintro e wh ⟨rfl, bh⟩
            go_wp2_with fail
            go_ret
            exact ⟨rfl, below_seq (below_seq b13 b4) bh⟩
          · obtain ⟨q, rfl⟩ : ∃ q : Nat, z = q := ⟨z.toNat, by omega⟩
            by_cases hqn : q < n
            · have hqz : (q : Int) < n := by omega
              clear hz0
              go_wp2_with (refine ldDIf (by kernel_rfl) (.tmp 41) rfl _ rfl d (B3.part 1 (chg_d q d)) ?_)
              refine (CD.out _).mono ?_
              rintro e w4 ⟨rfl, b4⟩
              have B4 := B3.keep (S := fun _ => False) (Mod.of_below b4) id
              have cz4 : w4.cell? ⟨w.heap.size, 0, none⟩ = some (.int .i64 q) := B4.cell 0
              have b14 := below_seq b13 b4
              have b34 := b4
              clear cz b13 b4
              obtain ⟨i0, hi0, hi1, hi2, hi3⟩ := info_agg infoD
              have HI0 := Lib.hid hi0
              have HI1 := Lib.hid hi1
              have HI2 := Lib.hid hi2
              have HI3 := Lib.hid hi3
              clear hi0 hi1 hi2 hi3
              have hnz : n ≠ 0 := by omega
              have hDs := HD.out.below b14
              obtain ⟨dq, hdq⟩ : ∃ x, ds[q]? = some x := ⟨_, List.getElem?_eq_getElem (by rw [HL.out]; exact hqn)⟩
              obtain ⟨ad, capd, od, hv, had, _, _⟩ := HD.out.get (Below.refl _ _) hdq
              injection hv with hv1 hv2 hv3
              subst hv1 hv3
              have hflat := hDs.flat
              have HFL : Hid (∀ j u, (flatD ds)[j]? = some u → (w4.alloc (.cells #[] 26)).cell? (ad.add j) = some u) := fun j u hu => by
                have h := hflat j u hu
                rw [World.cell?_alloc_lt _ _ _ (World.block_lt_of_cell? _ _ h)]
                exact h
              have HON := Lib.hid (own_empty w4 w4.heap.size (Nat.le_refl _))
              have HFN : Hid ((flatD ds).length = n * 10) := by show _ = _; rw [flatD_len, HL.out]
              have HF1 := Lib.hid (flatD_one ds)
              clear hv2 hdq hDs hflat
              obtain ⟨fl, hfl⟩ : ∃ x, flatD ds = x := ⟨_, rfl⟩
              have HFD := Lib.hid hfl
              rw [hfl] at HFL HFN HF1
              clear hfl
              have hs4 := B4.lt
              have HNZ := Lib.hid hnz
              have HB4 := Lib.hid B4
              go_wp2_with (first
                | (refine wpList_append_own _ rfl (.tmp 59) (.tmp 60) 44 rfl w4.heap.size 26 i0 (.agg Dcl.zero.cells) 10 56 Try.underlying44 HI0.out HI1.out HI2.out HI3.out rfl (by decide) (.slice (some ⟨w4.heap.size, 0, none⟩) 0 0) 0 [] rfl HON.out ad n c2 fl rfl HFN.out HFL.out HF1.out (by unfold maxLen; omega) (by omega) (by simp) ?_
                   intro v5 w5 hown5 hgr5 hnil5
                   clear hnil5
                   have b5 : Below w4.heap.size w4 w5 := (below_alloc w4 _).trans (below_grown hgr5 (by simp) (fun g hg => by simp [Value.ownBlock] at hg; omega))
                   clear hgr5
                   rw [Nat.zero_add, List.nil_append] at hown5
                   obtain ⟨_, hown5⟩ := hown5
                   rcases hown5 with ⟨_, h0⟩ | ⟨g5, cap5, cur5, rfl, hg5, hB5, hcap5, _, hsz5, htk5⟩
                   · exact absurd h0 HNZ.out
                   have C5 : Blk w5 g5 26 cur5 := hB5
                   clear hB5
                   have K5 := HB4.out.keep (S := fun _ => False) (Mod.of_below b5) id
                   have cz5 : w5.cell? ⟨w.heap.size, 0, none⟩ = some (.int .i64 q) := K5.cell 0
                   have hfit : q * 10 + 10 ≤ cur5.size := by
                     have e1 := row_le (k := 10) hqn
                     have e2 := Nat.mul_le_mul_right 10 hcap5
                     omega
                   have HSZ5 := Lib.hid hsz5
                   have HTK5 := Lib.hid htk5
                   clear hsz5 htk5)
                | (refine ldD rfl (.tmp 65) rfl _ rfl d (K5.part 1 (chg_d q d)) ?_)
                | (refine wpList_storeO rfl 26 (.tmp 67) (.tmp 66) rfl rfl g5 (q * 10) rfl d.cells rfl 26 cur5 C5 iD hfit (one26 d) ?_; intro w6 m6 B6))
              refine (CF.out _).mono ?_
              rintro e w7 ⟨rfl, b7⟩
              have b6 : Below w4.heap.size w5 w6 := m6.below b5.size (fun k hk => by omega)
              have b46 := b5.trans b6
              have b47 := below_seq b46 b7
              have b17 := below_seq b14 b47
              have HDS := Lib.hid ((own_set (w := w6) HL.out hcap5 HSZ5.out (HTK5.out.trans HFD.out.symm) hqn B6 (Below.refl 0 _)).below b7)
              have K7 := HB4.out.keep (S := fun _ => False) (Mod.of_below b47) id
              have b37 := below_seq b34 b47
              clear K5 b5 b7 m6 B6 C5 b6 b46 b47 b34 b14 HON HFL HFN HF1 HFD HSZ5 HTK5 HI0 HI1 HI2 HI3 cz5 hfit
              go_wp2_with fail
              refine (CY2.out _ _ _ b17 HDS.out (wf_set H16.out hd16) (by rw [List.length_set, HL.out]; exact hn60)).mono ?_
              rintro e w8 ⟨vb, ze, lb, rfl, hres, hssb, b8⟩
              have hres2 : StyRes .first ps (ds.set q d) 0 (styK .first ps (ds.set q d) (ds.set q d).length) := .inr (.inr ⟨⟨by rw [List.length_set]; exact HO1.out.1, HO1.out.2⟩, ⟨HO2.out.1, okD_set HO2.out.2 HVD.out⟩, rfl, rfl⟩)
              obtain ⟨rfl, rfl⟩ := hres.uniq hres2
              have hlB := styK_len .first ps (ds.set q d) (ds.set q d).length
              obtain ⟨LB, hLB⟩ : ∃ x, styK .first ps (ds.set q d) (ds.set q d).length = x := ⟨_, rfl⟩
              have HLB := Lib.hid hLB
              rw [hLB] at hssb hlB
              rw [List.length_set, HL.out] at hlB
              obtain ⟨A3, cb, hvb⟩ := hssb.form
              rw [hlB] at hvb
              subst hvb
              have HSB8 := Lib.hid hssb
              have HlB := Lib.hid hlB
              have b18 := below_seq b17 b8
              have K8 := K7.keep (S := fun _ => False) (Mod.of_below b8) id
              have b38 := below_seq b37 b8
              clear hres hres2 hssb hlB hLB b17 K7 HDS b8 b37
              have hmb := mkB n (by omega)
              have HSA8 := Lib.hid (HSA.out.below b38)
              have HPS : Hid (okP ps) := HO1.out.2
              have HPL : Hid (ps.length = n) := by show _ = _; rw [HO1.out.1, HL.out]
              have HmN : Hid (m = n) := by show _ = _; rw [← HM.out, HPL.out]
              have HAT : Hid (∀ k, k < n → LA.getD k .zero = over (upV .first LA (ps.getD k 0)) (ds.getD k .zero)) := fun k hk => by
                have h := styK_at .first ps ds ds.length HPS.out (by rw [HO1.out.1]; exact Nat.le_refl _) k (by rw [HL.out]; exact hk)
                rw [HLA.out] at h
                exact h
              have HBT : Hid (∀ k, k < n → LB.getD k .zero = over (upV .first LB (ps.getD k 0)) (if k = q then d else ds.getD k .zero)) := fun k hk => by
                have h := styK_at .first ps (ds.set q d) (ds.set q d).length HPS.out (by rw [List.length_set, HO1.out.1]; exact Nat.le_refl _) k (by rw [List.length_set, HL.out]; exact hk)
                rw [HLB.out, set_getD (by rw [HL.out]; exact hk)] at h
                exact h
              have K8' := Lib.hid K8
              clear HSA HO1 HO2 HVD HLA HLB CD CY2 K8 b38 HNZ HB4
              obtain rfl : m = n := HmN.out
              clear HmN
              go_wp2_with fail
              go_loopg [13] m (fun kx s13 wr => ∃ k : Nat, s13 = .int .i64 k ∧ k ≤ m ∧ kx = m - k ∧ Below w8.heap.size w8 wr ∧ ∃ cs, Blk wr w8.heap.size 4 cs ∧ BR LA LB m k cs)
              case atStart => exact ⟨0, rfl, by omega, rfl, below_alloc _ _, _, Blk.new _ _ _, BR.start _ _ _⟩
              case round =>
                obtain ⟨k, rfl, hk, rfl, bel, cs, hB, hBR⟩ := hrel
                clear hmb
                by_cases hlt : k < m
                · have hkz : (k : Int) < m := by omega
                  have hkl : k < ds.length := by rw [HL.out]; exact hlt
                  have hkp : k < ps.length := by rw [HPL.out]; exact hlt
                  obtain ⟨dk, hdk⟩ : ∃ x, ds.getD k .zero = x := ⟨_, rfl⟩
                  have hdg := getD_of Dcl.zero hkl
                  obtain ⟨p, hp⟩ : ∃ x, ps.getD k 0 = x := ⟨_, rfl⟩
                  have hpg := getD_of (0 : Int) hkp
                  obtain ⟨q1, q2⟩ := HPS.out k hkp
                  have eA := HAT.out k hlt
                  have eB := HBT.out k hlt
                  obtain ⟨u, hu⟩ : ∃ x, LA.getD k .zero = x := ⟨_, rfl⟩
                  obtain ⟨sb, hsb⟩ : ∃ x, LB.getD k .zero = x := ⟨_, rfl⟩
                  have hAg := getD_of Sty.zero (l := LA) (i := k) (by rw [HlA.out]; exact hlt)
                  have hBg := getD_of Sty.zero (l := LB) (i := k) (by rw [HlB.out]; exact hlt)
                  have HUV : Hid (u = sb → LA.getD k .zero = LB.getD k .zero) := fun h => by rw [hu, hsb]; exact h
                  rw [hdk] at hdg eA eB
                  rw [hp] at hpg q1 q2 eA eB
                  rw [hu] at eA hAg
                  rw [hsb] at eB hBg
                  obtain ⟨a0, cap0, o0, hv, ha0b, ha0, hL0⟩ := (HD.out.below b18).get (Below.refl _ _) hdg
                  injection hv with hv1 hv2 hv3
                  injection hv1 with hv1
                  subst hv1 hv3
                  obtain ⟨a1, cap1, hv, hab1, _, hcell⟩ := HP.out.at_ (by simp; omega)
                  injection hv with hv1 hv4 hv3
                  subst hv1 hv3
                  obtain ⟨a2, cap2, o2, hv, ha2b, ha2, hL2⟩ := HSA8.out.get (Below.refl _ _) hAg
                  injection hv with hv1 hv5 hv3
                  subst hv1 hv3
                  obtain ⟨a3, cap3, o3, hv, ha3b, ha3, hL3⟩ := HSB8.out.get (Below.refl _ _) hBg
                  injection hv with hv1 hv6 hv3
                  subst hv1 hv3
                  have hc0 : w.cell? (a1.add k) = some (.int .i64 p) := hcell k _ (by rw [List.getElem?_map, hpg]; rfl)
                  have hab1' : (a1.add k).block < w.heap.size := by rw [block_of_add]; exact hab1
                  have HC : Hid (∀ W, Below w8.heap.size w8 W → W.cell? (a1.add k) = some (.int .i64 p)) := fun W hW => ((b18.trans (hW.mono b18.size)).cell hab1').trans hc0
                  have HLD : Hid (∀ W, Below w8.heap.size w8 W → W.cell? ⟨ad.block, o0, none⟩ = some (.int .u16 dk.n)) := fun W hW => (hL0.below hW).bits
                  have HLU : Hid (∀ W, Below w8.heap.size w8 W → Lies W ⟨a2.block, o2, none⟩ u.cells) := fun W hW => hL2.below hW
                  have HLS : Hid (∀ W, Below w8.heap.size w8 W → Lies W ⟨a3.block, o3, none⟩ sb.cells) := fun W hW => hL3.below hW
                  have HKZ : Hid (∀ W, Below w8.heap.size w8 W → W.cell? ⟨w.heap.size, 0, none⟩ = some (.int .i64 q)) := fun W hW => (K8'.out.keep (S := fun _ => False) (Mod.of_below hW) id).cell 0
                  obtain ⟨b0, hk0, _⟩ := hBR.2 k hlt
                  have ck : wr.cell? ⟨w8.heap.size, k, none⟩ = some (.bool b0) := (hB.cell k).trans hk0
                  have fk : wr.frozen? ⟨w8.heap.size, k, none⟩ = false := hB.frozen k
                  have cz := HKZ.out wr bel
                  have cp := HC.out wr bel
                  have HBR := Lib.hid hBR
                  have HBB := Lib.hid hB
                  have eA' := Lib.hid eA
                  have eB' := Lib.hid eB
                  clear hv2 hv4 hv5 hv6 hcell hdg hpg hAg hBg hL0 hL2 hL3 hc0 hkl hkp hdk hp hu hsb hk0 hB hBR eA eB
                  by_cases hp0 : 0 ≤ p
                  · obtain ⟨pp, rfl⟩ : ∃ x : Nat, p = x := ⟨p.toNat, by omega⟩
                    have hpk : pp < k := by omega
                    have hpn : pp < m := by omega
                    have hpz : (pp : Int) < m := by omega
                    have hApg := getD_of Sty.zero (l := LA) (i := pp) (by rw [HlA.out]; exact hpn)
                    obtain ⟨U, hU⟩ : ∃ x, LA.getD pp .zero = x := ⟨_, rfl⟩
                    have upA : Hid (upV .first LA (pp : Int) = U) := by show _ = _; unfold upV; rw [if_pos hp0, Int.toNat_natCast]; exact hU
                    have upB : Hid (upV .first LB (pp : Int) = LB.getD pp .zero) := by show _ = _; unfold upV; rw [if_pos hp0, Int.toNat_natCast]
                    have HUU := Lib.hid hU
                    rw [hU] at hApg
                    obtain ⟨a4, cap4, o4, hv, ha4b, ha4, hL4⟩ := HSA8.out.get (Below.refl _ _) hApg
                    injection hv with hv1 hv5 hv3
                    injection hv1 with hv1
                    subst hv1 hv3
                    have HLP : Hid (∀ W, Below w8.heap.size w8 W → Lies W ⟨a2.block, o4, none⟩ U.cells) := fun W hW => hL4.below hW
                    obtain ⟨bp, hbp, hbq⟩ := HBR.out.2 pp hpn
                    have cb : wr.cell? ⟨w8.heap.size, pp, none⟩ = some (.bool bp) := (HBB.out.cell pp).trans hbp
                    have HBQ := Lib.hid hbq
                    clear hApg hv5 hL4 hbp hbq hU
                    by_cases hkq : k = q
                    · subst hkq
                      by_cases hn0 : dk.n = 0
                      · have HEN : Hid (((dk.n : Int) == 0) = true ∧ dk.n = 0) := ⟨by rw [hn0]; rfl, hn0⟩
                        have hUu : u = U := by
                          have h2 := eA'.out
                          rw [upA.out, over_n0 _ _ hn0] at h2
                          exact h2
                        subst hUu
                        have HN1 := Lib.hid (fun w => neS u u w true (decide_eq_true rfl))
                        simp only [Bool.not_true] at HN1
                        go_wp2_with fail
                        refine (CF.out _).mono ?_
                        rintro e w9 ⟨rfl, b9⟩
                        have bel9 := (bel.setCell (p := ⟨w8.heap.size, k, none⟩) (Nat.le_refl _) (.bool true)).trans (b9.mono ((bel.setCell (p := ⟨w8.heap.size, k, none⟩) (Nat.le_refl _) (.bool true)).size))
                        have BK9 := (HBB.out.set_ k (.bool true)).keep (S := fun _ => False) (Mod.of_below b9) id
                        clear ck fk cz cp b9
                        go_wp2_with (first
                          | (refine nwS rfl rfl 14 rfl rfl (.tmp 116) rfl rfl .first (fun _ => rfl) (fun _ => rfl) ?_; intro w10 b10 B10; have bel10 := bel9.trans (b10.mono bel9.size); have cp10 := HC.out w10 bel10; have BK10 := BK9.keep (S := fun _ => False) (Mod.of_below b10) id; have hl9 : w8.heap.size < w9.heap.size := BK9.lt)
                          | (refine ldS rfl (.tmp 127) rfl _ rfl u (ha4 ▸ HLP.out w10 bel10) ?_)
                          | (refine stS rfl (.tmp 14) (.tmp 128) rfl rfl _ rfl u rfl .first B10 ?_; intro w11 m11 B11))
                        have bel11 := bel10.trans (m11.below bel10.size (fun k hk => by omega))
                        have BK11 := BK10.keep m11 (by omega)
                        have HSE : Hid ((cs.setIfInBounds k (.bool true))[k]? = some (.bool true)) := Array.getElem?_setIfInBounds_self_of_lt (by rw [HBR.out.1]; exact hlt)
                        refine region_go (by kernel_rfl) (fun R hR => ?_)
                        refine AllS.take (i := 0) (v := ?_) (by rw [List.getElem?_toArray]; rfl) (by kernel_rfl) (by kernel_rfl) (by kernel_rfl) (KeepsIf.read (by rfl) ?_) ?_
                        rotate_left
                        · intro W hSw
                          (try dsimp only at hSw)
                          go_simp
                          (try with_reducible rfl)
                        rotate_left
                        (try simp only [Act.put, List.setIfInBounds_toArray, List.set_cons_zero, List.set_cons_succ])
                        refine AllS.take (i := 1) (v := ?_) (by rw [List.getElem?_toArray]; rfl) (by kernel_rfl) (by kernel_rfl) (by kernel_rfl) (KeepsIf.read (by rfl) ?_) ?_
                        rotate_left
                        · intro W hSw
                          (try dsimp only at hSw)
                          go_simp
                          (try with_reducible rfl)
                        rotate_left
                        (try simp only [Act.put, List.setIfInBounds_toArray, List.set_cons_zero, List.set_cons_succ])
                        refine AllS.take (i := 2) (v := ?_) (by rw [List.getElem?_toArray]; rfl) (by kernel_rfl) (by kernel_rfl) (by kernel_rfl) (KeepsIf.read (by rfl) ?_) ?_
                        rotate_left
                        · intro W hSw
                          (try dsimp only at hSw)
                          go_simp
                          (try with_reducible rfl)
                        rotate_left
                        (try simp only [Act.put, List.setIfInBounds_toArray, List.set_cons_zero, List.set_cons_succ])
                        refine AllS.take (i := 3) (v := ?_) (by rw [List.getElem?_toArray]; rfl) (by kernel_rfl) (by kernel_rfl) (by kernel_rfl) (KeepsIf.read (by rfl) ?_) ?_
                        rotate_left
                        · intro W hSw
                          (try dsimp only at hSw)
                          go_simp
                          (try with_reducible rfl)
                        rotate_left
                        (try simp only [Act.put, List.setIfInBounds_toArray, List.set_cons_zero, List.set_cons_succ])
                        refine AllS.take (i := 4) (v := ?_) (by rw [List.getElem?_toArray]; rfl) (by kernel_rfl) (by kernel_rfl) (by kernel_rfl) (KeepsIf.read (by rfl) ?_) ?_
                        rotate_left
                        · intro W hSw
                          (try dsimp only at hSw)
                          have cq := HLD.out W (bel11.trans (hSw.mono bel11.size))
                          go_simp
                          (try with_reducible rfl)
                        rotate_left
                        (try simp only [Act.put, List.setIfInBounds_toArray, List.set_cons_zero, List.set_cons_succ])
                        refine AllS.take (i := 5) (v := .bool true) (by rw [List.getElem?_toArray]; rfl) (by kernel_rfl) (by kernel_rfl) (by kernel_rfl) (KeepsIf.read (by rfl) (fun W hSw => ?_)) ?_
                        · (try dsimp only at hSw)
                          have en := HEN.out; go_simp
                        (try simp only [Act.put, List.setIfInBounds_toArray, List.set_cons_zero, List.set_cons_succ])
                        refine AllS.take (i := 6) (v := ?_) (by rw [List.getElem?_toArray]; rfl) (by kernel_rfl) (by kernel_rfl) (by kernel_rfl) (KeepsIf.read (by rfl) ?_) ?_
                        rotate_left
                        · intro W hSw
                          (try dsimp only at hSw)
                          go_simp
                          (try with_reducible rfl)
                        rotate_left
                        (try simp only [Act.put, List.setIfInBounds_toArray, List.set_cons_zero, List.set_cons_succ])
                        refine AllS.take (i := 7) (v := ?_) (by rw [List.getElem?_toArray]; rfl) (by kernel_rfl) (by kernel_rfl) (by kernel_rfl) (KeepsIf.read (by rfl) ?_) ?_
                        rotate_left
                        · intro W hSw
                          (try dsimp only at hSw)
                          go_simp
                          (try with_reducible rfl)
                        rotate_left
                        (try simp only [Act.put, List.setIfInBounds_toArray, List.set_cons_zero, List.set_cons_succ])
                        refine AllS.take (i := 8) (v := ?_) (by rw [List.getElem?_toArray]; rfl) (by kernel_rfl) (by kernel_rfl) (by kernel_rfl) (KeepsIf.read (by rfl) ?_) ?_
                        rotate_left
                        · intro W hSw
                          (try dsimp only at hSw)
                          go_simp
                          (try with_reducible rfl)
                        rotate_left
                        (try simp only [Act.put, List.setIfInBounds_toArray, List.set_cons_zero, List.set_cons_succ])
                        refine AllS.take (i := 9) (v := ?_) (by rw [List.getElem?_toArray]; rfl) (by kernel_rfl) (by kernel_rfl) (by kernel_rfl) (KeepsIf.read (by rfl) ?_) ?_
                        rotate_left
                        · intro W hSw
                          (try dsimp only at hSw)
                          go_simp
                          (try with_reducible rfl)
                        rotate_left
                        (try simp only [Act.put, List.setIfInBounds_toArray, List.set_cons_zero, List.set_cons_succ])
                        refine AllS.take (i := 10) (v := .agg u.cells) (by rw [List.getElem?_toArray]; rfl) (by kernel_rfl) (by kernel_rfl) (by kernel_rfl) (KeepsIf.read (by rfl) (fun W hSw => ?_)) ?_
                        · (try dsimp only at hSw)
                          exact rdS (.tmp 138) rfl _ rfl _ (ha2 ▸ HLU.out W (bel11.trans (hSw.mono bel11.size)))
                        (try simp only [Act.put, List.setIfInBounds_toArray, List.set_cons_zero, List.set_cons_succ])
                        refine AllS.take (i := 11) (v := .agg u.cells) (by rw [List.getElem?_toArray]; rfl) (by kernel_rfl) (by kernel_rfl) (by kernel_rfl) (KeepsIf.read (by rfl) (fun W hSw => ?_)) ?_
                        · (try dsimp only at hSw)
                          exact rdS (.tmp 14) rfl _ rfl _ (B11.keep (S := fun _ => False) (Mod.of_below hSw) id).lies
                        (try simp only [Act.put, List.setIfInBounds_toArray, List.set_cons_zero, List.set_cons_succ])
                        refine AllS.take (i := 12) (v := .bool false) (by rw [List.getElem?_toArray]; rfl) (by kernel_rfl) (by kernel_rfl) (by kernel_rfl) (KeepsIf.read (by rfl) (fun W hSw => ?_)) ?_
                        · (try dsimp only at hSw)
                          have hne := HN1.out; go_simp
                        (try simp only [Act.put, List.setIfInBounds_toArray, List.set_cons_zero, List.set_cons_succ])
                        refine AllS.take (i := 13) (v := ?_) (by rw [List.getElem?_toArray]; rfl) (by kernel_rfl) (by kernel_rfl) (by kernel_rfl) (KeepsIf.read (by rfl) ?_) ?_
                        rotate_left
                        · intro W hSw
                          (try dsimp only at hSw)
                          go_simp
                          (try with_reducible rfl)
                        rotate_left
                        (try simp only [Act.put, List.setIfInBounds_toArray, List.set_cons_zero, List.set_cons_succ])
                        refine AllS.take (i := 14) (v := ?_) (by rw [List.getElem?_toArray]; rfl) (by kernel_rfl) (by kernel_rfl) (by kernel_rfl) (KeepsIf.read (by rfl) ?_) ?_
                        rotate_left
                        · intro W hSw
                          (try dsimp only at hSw)
                          go_simp
                          (try with_reducible rfl)
                        rotate_left
                        (try simp only [Act.put, List.setIfInBounds_toArray, List.set_cons_zero, List.set_cons_succ])
                        refine AllS.take (i := 15) (v := ?_) (by rw [List.getElem?_toArray]; rfl) (by kernel_rfl) (by kernel_rfl) (by kernel_rfl) (KeepsIf.read (by rfl) ?_) ?_
                        rotate_left
                        · intro W hSw
                          (try dsimp only at hSw)
                          go_simp
                          (try with_reducible rfl)
                        rotate_left
                        (try simp only [Act.put, List.setIfInBounds_toArray, List.set_cons_zero, List.set_cons_succ])
                        refine AllS.take (i := 16) (v := ?_) (by rw [List.getElem?_toArray]; rfl) (by kernel_rfl) (by kernel_rfl) (by kernel_rfl) (KeepsIf.read (by rfl) ?_) ?_
                        rotate_left
                        · intro W hSw
                          (try dsimp only at hSw)
                          go_simp
                          (try with_reducible rfl)
                        rotate_left
                        (try simp only [Act.put, List.setIfInBounds_toArray, List.set_cons_zero, List.set_cons_succ])
                        refine AllS.take (i := 17) (v := ?_) (by rw [List.getElem?_toArray]; rfl) (by kernel_rfl) (by kernel_rfl) (by kernel_rfl) (KeepsIf.read (by rfl) ?_) ?_
                        rotate_left
                        · intro W hSw
                          (try dsimp only at hSw)
                          go_simp
                          (try with_reducible rfl)
                        rotate_left
                        (try simp only [Act.put, List.setIfInBounds_toArray, List.set_cons_zero, List.set_cons_succ])
                        refine AllS.take (i := 18) (v := ?_) (by rw [List.getElem?_toArray]; rfl) (by kernel_rfl) (by kernel_rfl) (by kernel_rfl) (KeepsIf.read (by rfl) ?_) ?_
                        rotate_left
                        · intro W hSw
                          (try dsimp only at hSw)
                          have cq : W.cell? ⟨w8.heap.size, k, none⟩ = some (.bool true) := ((BK11.keep (S := fun _ => False) (Mod.of_below hSw) id).cell k).trans HSE.out
                          go_simp
                          (try with_reducible rfl)
                        rotate_left
                        (try simp only [Act.put, List.setIfInBounds_toArray, List.set_cons_zero, List.set_cons_succ])
                        refine AllS.take (i := 19) (v := ?_) (by rw [List.getElem?_toArray]; rfl) (by kernel_rfl) (by kernel_rfl) (by kernel_rfl) (KeepsIf.read (by rfl) ?_) ?_
                        rotate_left
                        · intro W hSw
                          (try dsimp only at hSw)
                          go_simp
                          (try with_reducible rfl)
                        rotate_left
                        (try simp only [Act.put, List.setIfInBounds_toArray, List.set_cons_zero, List.set_cons_succ])
                        refine AllS.take (i := 20) (v := ?_) (by rw [List.getElem?_toArray]; rfl) (by kernel_rfl) (by kernel_rfl) (by kernel_rfl) (KeepsIf.read (by rfl) ?_) ?_
                        rotate_left
                        · intro W hSw
                          (try dsimp only at hSw)
                          go_simp
                          (try with_reducible rfl)
                        rotate_left
                        (try simp only [Act.put, List.setIfInBounds_toArray, List.set_cons_zero, List.set_cons_succ])
                        refine AllS.take (i := 21) (v := undef) (by rw [List.getElem?_toArray]; rfl) (by kernel_rfl) (by kernel_rfl) (by kernel_rfl) (KeepsIf.un (by kernel_rfl)) ?_
                        (try simp only [Act.put, List.setIfInBounds_toArray, List.set_cons_zero, List.set_cons_succ])
                        refine AllS.take (i := 22) (v := undef) (by rw [List.getElem?_toArray]; rfl) (by kernel_rfl) (by kernel_rfl) (by kernel_rfl) (KeepsIf.un (by kernel_rfl)) ?_
                        (try simp only [Act.put, List.setIfInBounds_toArray, List.set_cons_zero, List.set_cons_succ])
                        refine AllS.take (i := 23) (v := undef) (by rw [List.getElem?_toArray]; rfl) (by kernel_rfl) (by kernel_rfl) (by kernel_rfl) (KeepsIf.un (by kernel_rfl)) ?_
                        (try simp only [Act.put, List.setIfInBounds_toArray, List.set_cons_zero, List.set_cons_succ])
                        refine AllS.take (i := 24) (v := undef) (by rw [List.getElem?_toArray]; rfl) (by kernel_rfl) (by kernel_rfl) (by kernel_rfl) (KeepsIf.un (by kernel_rfl)) ?_
                        (try simp only [Act.put, List.setIfInBounds_toArray, List.set_cons_zero, List.set_cons_succ])
                        refine AllS.take (i := 25) (v := undef) (by rw [List.getElem?_toArray]; rfl) (by kernel_rfl) (by kernel_rfl) (by kernel_rfl) (KeepsIf.un (by kernel_rfl)) ?_
                        (try simp only [Act.put, List.setIfInBounds_toArray, List.set_cons_zero, List.set_cons_succ])
                        refine AllS.take (i := 26) (v := undef) (by rw [List.getElem?_toArray]; rfl) (by kernel_rfl) (by kernel_rfl) (by kernel_rfl) (KeepsIf.un (by kernel_rfl)) ?_
                        (try simp only [Act.put, List.setIfInBounds_toArray, List.set_cons_zero, List.set_cons_succ])
                        refine AllS.take (i := 27) (v := undef) (by rw [List.getElem?_toArray]; rfl) (by kernel_rfl) (by kernel_rfl) (by kernel_rfl) (KeepsIf.un (by kernel_rfl)) ?_
                        (try simp only [Act.put, List.setIfInBounds_toArray, List.set_cons_zero, List.set_cons_succ])
                        refine AllS.take (i := 28) (v := undef) (by rw [List.getElem?_toArray]; rfl) (by kernel_rfl) (by kernel_rfl) (by kernel_rfl) (KeepsIf.un (by kernel_rfl)) ?_
                        (try simp only [Act.put, List.setIfInBounds_toArray, List.set_cons_zero, List.set_cons_succ])
                        refine AllS.take (i := 29) (v := undef) (by rw [List.getElem?_toArray]; rfl) (by kernel_rfl) (by kernel_rfl) (by kernel_rfl) (KeepsIf.un (by kernel_rfl)) ?_
                        (try simp only [Act.put, List.setIfInBounds_toArray, List.set_cons_zero, List.set_cons_succ])
                        refine AllS.take (i := 30) (v := ?_) (by rw [List.getElem?_toArray]; rfl) (by kernel_rfl) (by kernel_rfl) (by kernel_rfl) (KeepsIf.read (by rfl) ?_) ?_
                        rotate_left
                        · intro W hSw
                          (try dsimp only at hSw)
                          go_simp
                          (try with_reducible rfl)
                        rotate_left
                        (try simp only [Act.put, List.setIfInBounds_toArray, List.set_cons_zero, List.set_cons_succ])
                        refine AllS.take (i := 31) (v := ?_) (by rw [List.getElem?_toArray]; rfl) (by kernel_rfl) (by kernel_rfl) (by kernel_rfl) (KeepsIf.read (by rfl) ?_) ?_
                        rotate_left
                        · intro W hSw
                          (try dsimp only at hSw)
                          go_simp
                          (try with_reducible rfl)
                        rotate_left
                        (try simp only [Act.put, List.setIfInBounds_toArray, List.set_cons_zero, List.set_cons_succ])
                        refine AllS.done (by kernel_rfl) (hR.out _ ?_) _
                        clear hR R
                        intro w12 b12
                        go_wp2_with fail
                        go_roundg (m - (k + 1))
                        case measure => omega
                        case rel => exact ⟨k + 1, by go_num, by omega, rfl, bel11.trans (b12.mono bel11.size), _, BK11.keep (S := fun _ => False) (Mod.of_below b12) id, HBR.out.step hlt (fun h => by cases h)⟩
                      · have HEN : Hid (((dk.n : Int) == 0) = false ∧ ¬ dk.n = 0) := ⟨by simp; omega, hn0⟩
                        have HN1 := Lib.hid (fun w => neS u u w true (decide_eq_true rfl))
                        simp only [Bool.not_true] at HN1
                        go_wp2_with fail
                        refine (CF.out _).mono ?_
                        rintro e w9 ⟨rfl, b9⟩
                        have bel9 := (bel.setCell (p := ⟨w8.heap.size, k, none⟩) (Nat.le_refl _) (.bool true)).trans (b9.mono ((bel.setCell (p := ⟨w8.heap.size, k, none⟩) (Nat.le_refl _) (.bool true)).size))
                        have BK9 := (HBB.out.set_ k (.bool true)).keep (S := fun _ => False) (Mod.of_below b9) id
                        clear ck fk cz cp b9
                        go_wp2_with (first
                          | (refine nwS rfl rfl 14 rfl rfl (.tmp 116) rfl rfl .first (fun _ => rfl) (fun _ => rfl) ?_; intro w10 b10 B10; have bel10 := bel9.trans (b10.mono bel9.size); have cp10 := HC.out w10 bel10; have BK10 := BK9.keep (S := fun _ => False) (Mod.of_below b10) id; have hl9 : w8.heap.size < w9.heap.size := BK9.lt)
                          | (refine ldS rfl (.tmp 127) rfl _ rfl U (ha4 ▸ HLP.out w10 bel10) ?_)
                          | (refine stS rfl (.tmp 14) (.tmp 128) rfl rfl _ rfl U rfl .first B10 ?_; intro w11 m11 B11))
                        have bel11 := bel10.trans (m11.below bel10.size (fun k hk => by omega))
                        have BK11 := BK10.keep m11 (by omega)
                        have HSE : Hid ((cs.setIfInBounds k (.bool true))[k]? = some (.bool true)) := Array.getElem?_setIfInBounds_self_of_lt (by rw [HBR.out.1]; exact hlt)
                        refine region_go (by kernel_rfl) (fun R hR => ?_)
                        refine AllS.take (i := 0) (v := ?_) (by rw [List.getElem?_toArray]; rfl) (by kernel_rfl) (by kernel_rfl) (by kernel_rfl) (KeepsIf.read (by rfl) ?_) ?_
                        rotate_left
                        · intro W hSw
                          (try dsimp only at hSw)
                          go_simp
                          (try with_reducible rfl)
                        rotate_left
                        (try simp only [Act.put, List.setIfInBounds_toArray, List.set_cons_zero, List.set_cons_succ])
                        refine AllS.take (i := 1) (v := ?_) (by rw [List.getElem?_toArray]; rfl) (by kernel_rfl) (by kernel_rfl) (by kernel_rfl) (KeepsIf.read (by rfl) ?_) ?_
                        rotate_left
                        · intro W hSw
                          (try dsimp only at hSw)
                          go_simp
                          (try with_reducible rfl)
                        rotate_left
                        (try simp only [Act.put, List.setIfInBounds_toArray, List.set_cons_zero, List.set_cons_succ])
                        refine AllS.take (i := 2) (v := ?_) (by rw [List.getElem?_toArray]; rfl) (by kernel_rfl) (by kernel_rfl) (by kernel_rfl) (KeepsIf.read (by rfl) ?_) ?_
                        rotate_left
                        · intro W hSw
                          (try dsimp only at hSw)
                          go_simp
                          (try with_reducible rfl)
                        rotate_left
                        (try simp only [Act.put, List.setIfInBounds_toArray, List.set_cons_zero, List.set_cons_succ])
                        refine AllS.take (i := 3) (v := ?_) (by rw [List.getElem?_toArray]; rfl) (by kernel_rfl) (by kernel_rfl) (by kernel_rfl) (KeepsIf.read (by rfl) ?_) ?_
                        rotate_left
                        · intro W hSw
                          (try dsimp only at hSw)
                          go_simp
                          (try with_reducible rfl)
                        rotate_left
                        (try simp only [Act.put, List.setIfInBounds_toArray, List.set_cons_zero, List.set_cons_succ])
                        refine AllS.take (i := 4) (v := ?_) (by rw [List.getElem?_toArray]; rfl) (by kernel_rfl) (by kernel_rfl) (by kernel_rfl) (KeepsIf.read (by rfl) ?_) ?_
                        rotate_left
                        · intro W hSw
                          (try dsimp only at hSw)
                          have cq := HLD.out W (bel11.trans (hSw.mono bel11.size))
                          go_simp
                          (try with_reducible rfl)
                        rotate_left
                        (try simp only [Act.put, List.setIfInBounds_toArray, List.set_cons_zero, List.set_cons_succ])
                        refine AllS.take (i := 5) (v := .bool false) (by rw [List.getElem?_toArray]; rfl) (by kernel_rfl) (by kernel_rfl) (by kernel_rfl) (KeepsIf.read (by rfl) (fun W hSw => ?_)) ?_
                        · (try dsimp only at hSw)
                          have en := HEN.out; go_simp
                        (try simp only [Act.put, List.setIfInBounds_toArray, List.set_cons_zero, List.set_cons_succ])
                        refine AllS.take (i := 6) (v := ?_) (by rw [List.getElem?_toArray]; rfl) (by kernel_rfl) (by kernel_rfl) (by kernel_rfl) (KeepsIf.read (by rfl) ?_) ?_
                        rotate_left
                        · intro W hSw
                          (try dsimp only at hSw)
                          go_simp
                          (try with_reducible rfl)
                        rotate_left
                        (try simp only [Act.put, List.setIfInBounds_toArray, List.set_cons_zero, List.set_cons_succ])
                        refine AllS.take (i := 7) (v := undef) (by rw [List.getElem?_toArray]; rfl) (by kernel_rfl) (by kernel_rfl) (by kernel_rfl) (KeepsIf.un (by kernel_rfl)) ?_
                        (try simp only [Act.put, List.setIfInBounds_toArray, List.set_cons_zero, List.set_cons_succ])
                        refine AllS.take (i := 8) (v := undef) (by rw [List.getElem?_toArray]; rfl) (by kernel_rfl) (by kernel_rfl) (by kernel_rfl) (KeepsIf.un (by kernel_rfl)) ?_
                        (try simp only [Act.put, List.setIfInBounds_toArray, List.set_cons_zero, List.set_cons_succ])
                        refine AllS.take (i := 9) (v := undef) (by rw [List.getElem?_toArray]; rfl) (by kernel_rfl) (by kernel_rfl) (by kernel_rfl) (KeepsIf.un (by kernel_rfl)) ?_
                        (try simp only [Act.put, List.setIfInBounds_toArray, List.set_cons_zero, List.set_cons_succ])
                        refine AllS.take (i := 10) (v := undef) (by rw [List.getElem?_toArray]; rfl) (by kernel_rfl) (by kernel_rfl) (by kernel_rfl) (KeepsIf.un (by kernel_rfl)) ?_
                        (try simp only [Act.put, List.setIfInBounds_toArray, List.set_cons_zero, List.set_cons_succ])
                        refine AllS.take (i := 11) (v := undef) (by rw [List.getElem?_toArray]; rfl) (by kernel_rfl) (by kernel_rfl) (by kernel_rfl) (KeepsIf.un (by kernel_rfl)) ?_
                        (try simp only [Act.put, List.setIfInBounds_toArray, List.set_cons_zero, List.set_cons_succ])
                        refine AllS.take (i := 12) (v := undef) (by rw [List.getElem?_toArray]; rfl) (by kernel_rfl) (by kernel_rfl) (by kernel_rfl) (KeepsIf.un (by kernel_rfl)) ?_
                        (try simp only [Act.put, List.setIfInBounds_toArray, List.set_cons_zero, List.set_cons_succ])
                        refine AllS.take (i := 13) (v := ?_) (by rw [List.getElem?_toArray]; rfl) (by kernel_rfl) (by kernel_rfl) (by kernel_rfl) (KeepsIf.read (by rfl) ?_) ?_
                        rotate_left
                        · intro W hSw
                          (try dsimp only at hSw)
                          go_simp
                          (try with_reducible rfl)
                        rotate_left
                        (try simp only [Act.put, List.setIfInBounds_toArray, List.set_cons_zero, List.set_cons_succ])
                        refine AllS.take (i := 14) (v := ?_) (by rw [List.getElem?_toArray]; rfl) (by kernel_rfl) (by kernel_rfl) (by kernel_rfl) (KeepsIf.read (by rfl) ?_) ?_
                        rotate_left
                        · intro W hSw
                          (try dsimp only at hSw)
                          go_simp
                          (try with_reducible rfl)
                        rotate_left
                        (try simp only [Act.put, List.setIfInBounds_toArray, List.set_cons_zero, List.set_cons_succ])
                        refine AllS.take (i := 15) (v := ?_) (by rw [List.getElem?_toArray]; rfl) (by kernel_rfl) (by kernel_rfl) (by kernel_rfl) (KeepsIf.read (by rfl) ?_) ?_
                        rotate_left
                        · intro W hSw
                          (try dsimp only at hSw)
                          go_simp
                          (try with_reducible rfl)
                        rotate_left
                        (try simp only [Act.put, List.setIfInBounds_toArray, List.set_cons_zero, List.set_cons_succ])
                        refine AllS.take (i := 16) (v := ?_) (by rw [List.getElem?_toArray]; rfl) (by kernel_rfl) (by kernel_rfl) (by kernel_rfl) (KeepsIf.read (by rfl) ?_) ?_
                        rotate_left
                        · intro W hSw
                          (try dsimp only at hSw)
                          go_simp
                          (try with_reducible rfl)
                        rotate_left
                        (try simp only [Act.put, List.setIfInBounds_toArray, List.set_cons_zero, List.set_cons_succ])
                        refine AllS.take (i := 17) (v := ?_) (by rw [List.getElem?_toArray]; rfl) (by kernel_rfl) (by kernel_rfl) (by kernel_rfl) (KeepsIf.read (by rfl) ?_) ?_
                        rotate_left
                        · intro W hSw
                          (try dsimp only at hSw)
                          go_simp
                          (try with_reducible rfl)
                        rotate_left
                        (try simp only [Act.put, List.setIfInBounds_toArray, List.set_cons_zero, List.set_cons_succ])
                        refine AllS.take (i := 18) (v := ?_) (by rw [List.getElem?_toArray]; rfl) (by kernel_rfl) (by kernel_rfl) (by kernel_rfl) (KeepsIf.read (by rfl) ?_) ?_
                        rotate_left
                        · intro W hSw
                          (try dsimp only at hSw)
                          have cq : W.cell? ⟨w8.heap.size, k, none⟩ = some (.bool true) := ((BK11.keep (S := fun _ => False) (Mod.of_below hSw) id).cell k).trans HSE.out
                          go_simp
                          (try with_reducible rfl)
                        rotate_left
                        (try simp only [Act.put, List.setIfInBounds_toArray, List.set_cons_zero, List.set_cons_succ])
                        refine AllS.take (i := 19) (v := ?_) (by rw [List.getElem?_toArray]; rfl) (by kernel_rfl) (by kernel_rfl) (by kernel_rfl) (KeepsIf.read (by rfl) ?_) ?_
                        rotate_left
                        · intro W hSw
                          (try dsimp only at hSw)
                          go_simp
                          (try with_reducible rfl)
                        rotate_left
                        (try simp only [Act.put, List.setIfInBounds_toArray, List.set_cons_zero, List.set_cons_succ])
                        refine AllS.take (i := 20) (v := ?_) (by rw [List.getElem?_toArray]; rfl) (by kernel_rfl) (by kernel_rfl) (by kernel_rfl) (KeepsIf.read (by rfl) ?_) ?_
                        rotate_left
                        · intro W hSw
                          (try dsimp only at hSw)
                          go_simp
                          (try with_reducible rfl)
                        rotate_left
                        (try simp only [Act.put, List.setIfInBounds_toArray, List.set_cons_zero, List.set_cons_succ])
                        refine AllS.take (i := 21) (v := undef) (by rw [List.getElem?_toArray]; rfl) (by kernel_rfl) (by kernel_rfl) (by kernel_rfl) (KeepsIf.un (by kernel_rfl)) ?_
                        (try simp only [Act.put, List.setIfInBounds_toArray, List.set_cons_zero, List.set_cons_succ])
                        refine AllS.take (i := 22) (v := undef) (by rw [List.getElem?_toArray]; rfl) (by kernel_rfl) (by kernel_rfl) (by kernel_rfl) (KeepsIf.un (by kernel_rfl)) ?_
                        (try simp only [Act.put, List.setIfInBounds_toArray, List.set_cons_zero, List.set_cons_succ])
                        refine AllS.take (i := 23) (v := undef) (by rw [List.getElem?_toArray]; rfl) (by kernel_rfl) (by kernel_rfl) (by kernel_rfl) (KeepsIf.un (by kernel_rfl)) ?_
                        (try simp only [Act.put, List.setIfInBounds_toArray, List.set_cons_zero, List.set_cons_succ])
                        refine AllS.take (i := 24) (v := undef) (by rw [List.getElem?_toArray]; rfl) (by kernel_rfl) (by kernel_rfl) (by kernel_rfl) (KeepsIf.un (by kernel_rfl)) ?_
                        (try simp only [Act.put, List.setIfInBounds_toArray, List.set_cons_zero, List.set_cons_succ])
                        refine AllS.take (i := 25) (v := undef) (by rw [List.getElem?_toArray]; rfl) (by kernel_rfl) (by kernel_rfl) (by kernel_rfl) (KeepsIf.un (by kernel_rfl)) ?_
                        (try simp only [Act.put, List.setIfInBounds_toArray, List.set_cons_zero, List.set_cons_succ])
                        refine AllS.take (i := 26) (v := undef) (by rw [List.getElem?_toArray]; rfl) (by kernel_rfl) (by kernel_rfl) (by kernel_rfl) (KeepsIf.un (by kernel_rfl)) ?_
                        (try simp only [Act.put, List.setIfInBounds_toArray, List.set_cons_zero, List.set_cons_succ])
                        refine AllS.take (i := 27) (v := undef) (by rw [List.getElem?_toArray]; rfl) (by kernel_rfl) (by kernel_rfl) (by kernel_rfl) (KeepsIf.un (by kernel_rfl)) ?_
                        (try simp only [Act.put, List.setIfInBounds_toArray, List.set_cons_zero, List.set_cons_succ])
                        refine AllS.take (i := 28) (v := undef) (by rw [List.getElem?_toArray]; rfl) (by kernel_rfl) (by kernel_rfl) (by kernel_rfl) (KeepsIf.un (by kernel_rfl)) ?_
                        (try simp only [Act.put, List.setIfInBounds_toArray, List.set_cons_zero, List.set_cons_succ])
                        refine AllS.take (i := 29) (v := undef) (by rw [List.getElem?_toArray]; rfl) (by kernel_rfl) (by kernel_rfl) (by kernel_rfl) (KeepsIf.un (by kernel_rfl)) ?_
                        (try simp only [Act.put, List.setIfInBounds_toArray, List.set_cons_zero, List.set_cons_succ])
                        refine AllS.take (i := 30) (v := ?_) (by rw [List.getElem?_toArray]; rfl) (by kernel_rfl) (by kernel_rfl) (by kernel_rfl) (KeepsIf.read (by rfl) ?_) ?_
                        rotate_left
                        · intro W hSw
                          (try dsimp only at hSw)
                          go_simp
                          (try with_reducible rfl)
                        rotate_left
                        (try simp only [Act.put, List.setIfInBounds_toArray, List.set_cons_zero, List.set_cons_succ])
                        refine AllS.take (i := 31) (v := ?_) (by rw [List.getElem?_toArray]; rfl) (by kernel_rfl) (by kernel_rfl) (by kernel_rfl) (KeepsIf.read (by rfl) ?_) ?_
                        rotate_left
                        · intro W hSw
                          (try dsimp only at hSw)
                          go_simp
                          (try with_reducible rfl)
                        rotate_left
                        (try simp only [Act.put, List.setIfInBounds_toArray, List.set_cons_zero, List.set_cons_succ])
                        refine AllS.done (by kernel_rfl) (hR.out _ ?_) _
                        clear hR R
                        intro w12 b12
                        go_wp2_with fail
                        go_roundg (m - (k + 1))
                        case measure => omega
                        case rel => exact ⟨k + 1, by go_num, by omega, rfl, bel11.trans (b12.mono bel11.size), _, BK11.keep (S := fun _ => False) (Mod.of_below b12) id, HBR.out.step hlt (fun h => by cases h)⟩
                    · have ekq : ((k : Int) == (q : Int)) = false := by simp; omega
                      have ekq2 : ¬ (k : Int) = (q : Int) := by omega
                      have sameP : Hid (bp = false → u = sb) := fun hb => by
                        have h1 := HBQ.out hpk hb
                        have h2 := eA'.out
                        have h3 := eB'.out
                        rw [upA.out] at h2
                        rw [upB.out, ← h1, HUU.out, if_neg hkq] at h3
                        rw [h2, h3]
                      clear HBQ
                      cases bp with
                      | true =>
                        by_cases hn0 : dk.n = 0
                        · have HEN : Hid (((dk.n : Int) == 0) = true ∧ dk.n = 0) := ⟨by rw [hn0]; rfl, hn0⟩
                          have hUu : u = U := by
                            have h2 := eA'.out
                            rw [upA.out, over_n0 _ _ hn0] at h2
                            exact h2
                          subst hUu
                          have HN1 := Lib.hid (fun w => neS u u w true (decide_eq_true rfl))
                          simp only [Bool.not_true] at HN1
                          go_wp2_with fail
                          refine (CF.out _).mono ?_
                          rintro e w9 ⟨rfl, b9⟩
                          have bel9 := (bel.setCell (p := ⟨w8.heap.size, k, none⟩) (Nat.le_refl _) (.bool true)).trans (b9.mono ((bel.setCell (p := ⟨w8.heap.size, k, none⟩) (Nat.le_refl _) (.bool true)).size))
                          have BK9 := (HBB.out.set_ k (.bool true)).keep (S := fun _ => False) (Mod.of_below b9) id
                          clear ck fk cz cp b9
                          go_wp2_with (first
                            | (refine nwS rfl rfl 14 rfl rfl (.tmp 116) rfl rfl .first (fun _ => rfl) (fun _ => rfl) ?_; intro w10 b10 B10; have bel10 := bel9.trans (b10.mono bel9.size); have cp10 := HC.out w10 bel10; have BK10 := BK9.keep (S := fun _ => False) (Mod.of_below b10) id; have hl9 : w8.heap.size < w9.heap.size := BK9.lt)
                            | (refine ldS rfl (.tmp 127) rfl _ rfl u (ha4 ▸ HLP.out w10 bel10) ?_)
                            | (refine stS rfl (.tmp 14) (.tmp 128) rfl rfl _ rfl u rfl .first B10 ?_; intro w11 m11 B11))
                          have bel11 := bel10.trans (m11.below bel10.size (fun k hk => by omega))
                          have BK11 := BK10.keep m11 (by omega)
                          have HSE : Hid ((cs.setIfInBounds k (.bool true))[k]? = some (.bool true)) := Array.getElem?_setIfInBounds_self_of_lt (by rw [HBR.out.1]; exact hlt)
                          refine region_go (by kernel_rfl) (fun R hR => ?_)
                          refine AllS.take (i := 0) (v := ?_) (by rw [List.getElem?_toArray]; rfl) (by kernel_rfl) (by kernel_rfl) (by kernel_rfl) (KeepsIf.read (by rfl) ?_) ?_
                          rotate_left
                          · intro W hSw
                            (try dsimp only at hSw)
                            go_simp
                            (try with_reducible rfl)
                          rotate_left
                          (try simp only [Act.put, List.setIfInBounds_toArray, List.set_cons_zero, List.set_cons_succ])
                          refine AllS.take (i := 1) (v := ?_) (by rw [List.getElem?_toArray]; rfl) (by kernel_rfl) (by kernel_rfl) (by kernel_rfl) (KeepsIf.read (by rfl) ?_) ?_
                          rotate_left
                          · intro W hSw
                            (try dsimp only at hSw)
                            go_simp
                            (try with_reducible rfl)
                          rotate_left
                          (try simp only [Act.put, List.setIfInBounds_toArray, List.set_cons_zero, List.set_cons_succ])
                          refine AllS.take (i := 2) (v := ?_) (by rw [List.getElem?_toArray]; rfl) (by kernel_rfl) (by kernel_rfl) (by kernel_rfl) (KeepsIf.read (by rfl) ?_) ?_
                          rotate_left
                          · intro W hSw
                            (try dsimp only at hSw)
                            go_simp
                            (try with_reducible rfl)
                          rotate_left
                          (try simp only [Act.put, List.setIfInBounds_toArray, List.set_cons_zero, List.set_cons_succ])
                          refine AllS.take (i := 3) (v := ?_) (by rw [List.getElem?_toArray]; rfl) (by kernel_rfl) (by kernel_rfl) (by kernel_rfl) (KeepsIf.read (by rfl) ?_) ?_
                          rotate_left
                          · intro W hSw
                            (try dsimp only at hSw)
                            go_simp
                            (try with_reducible rfl)
                          rotate_left
                          (try simp only [Act.put, List.setIfInBounds_toArray, List.set_cons_zero, List.set_cons_succ])
                          refine AllS.take (i := 4) (v := ?_) (by rw [List.getElem?_toArray]; rfl) (by kernel_rfl) (by kernel_rfl) (by kernel_rfl) (KeepsIf.read (by rfl) ?_) ?_
                          rotate_left
                          · intro W hSw
                            (try dsimp only at hSw)
                            have cq := HLD.out W (bel11.trans (hSw.mono bel11.size))
                            go_simp
                            (try with_reducible rfl)
                          rotate_left
                          (try simp only [Act.put, List.setIfInBounds_toArray, List.set_cons_zero, List.set_cons_succ])
                          refine AllS.take (i := 5) (v := .bool true) (by rw [List.getElem?_toArray]; rfl) (by kernel_rfl) (by kernel_rfl) (by kernel_rfl) (KeepsIf.read (by rfl) (fun W hSw => ?_)) ?_
                          · (try dsimp only at hSw)
                            have en := HEN.out; go_simp
                          (try simp only [Act.put, List.setIfInBounds_toArray, List.set_cons_zero, List.set_cons_succ])
                          refine AllS.take (i := 6) (v := ?_) (by rw [List.getElem?_toArray]; rfl) (by kernel_rfl) (by kernel_rfl) (by kernel_rfl) (KeepsIf.read (by rfl) ?_) ?_
                          rotate_left
                          · intro W hSw
                            (try dsimp only at hSw)
                            go_simp
                            (try with_reducible rfl)
                          rotate_left
                          (try simp only [Act.put, List.setIfInBounds_toArray, List.set_cons_zero, List.set_cons_succ])
                          refine AllS.take (i := 7) (v := ?_) (by rw [List.getElem?_toArray]; rfl) (by kernel_rfl) (by kernel_rfl) (by kernel_rfl) (KeepsIf.read (by rfl) ?_) ?_
                          rotate_left
                          · intro W hSw
                            (try dsimp only at hSw)
                            go_simp
                            (try with_reducible rfl)
                          rotate_left
                          (try simp only [Act.put, List.setIfInBounds_toArray, List.set_cons_zero, List.set_cons_succ])
                          refine AllS.take (i := 8) (v := ?_) (by rw [List.getElem?_toArray]; rfl) (by kernel_rfl) (by kernel_rfl) (by kernel_rfl) (KeepsIf.read (by rfl) ?_) ?_
                          rotate_left
                          · intro W hSw
                            (try dsimp only at hSw)
                            go_simp
                            (try with_reducible rfl)
                          rotate_left
                          (try simp only [Act.put, List.setIfInBounds_toArray, List.set_cons_zero, List.set_cons_succ])
                          refine AllS.take (i := 9) (v := ?_) (by rw [List.getElem?_toArray]; rfl) (by kernel_rfl) (by kernel_rfl) (by kernel_rfl) (KeepsIf.read (by rfl) ?_) ?_
                          rotate_left
                          · intro W hSw
                            (try dsimp only at hSw)
                            go_simp
                            (try with_reducible rfl)
                          rotate_left
                          (try simp only [Act.put, List.setIfInBounds_toArray, List.set_cons_zero, List.set_cons_succ])
                          refine AllS.take (i := 10) (v := .agg u.cells) (by rw [List.getElem?_toArray]; rfl) (by kernel_rfl) (by kernel_rfl) (by kernel_rfl) (KeepsIf.read (by rfl) (fun W hSw => ?_)) ?_
                          · (try dsimp only at hSw)
                            exact rdS (.tmp 138) rfl _ rfl _ (ha2 ▸ HLU.out W (bel11.trans (hSw.mono bel11.size)))
                          (try simp only [Act.put, List.setIfInBounds_toArray, List.set_cons_zero, List.set_cons_succ])
                          refine AllS.take (i := 11) (v := .agg u.cells) (by rw [List.getElem?_toArray]; rfl) (by kernel_rfl) (by kernel_rfl) (by kernel_rfl) (KeepsIf.read (by rfl) (fun W hSw => ?_)) ?_
                          · (try dsimp only at hSw)
                            exact rdS (.tmp 14) rfl _ rfl _ (B11.keep (S := fun _ => False) (Mod.of_below hSw) id).lies
                          (try simp only [Act.put, List.setIfInBounds_toArray, List.set_cons_zero, List.set_cons_succ])
                          refine AllS.take (i := 12) (v := .bool false) (by rw [List.getElem?_toArray]; rfl) (by kernel_rfl) (by kernel_rfl) (by kernel_rfl) (KeepsIf.read (by rfl) (fun W hSw => ?_)) ?_
                          · (try dsimp only at hSw)
                            have hne := HN1.out; go_simp
                          (try simp only [Act.put, List.setIfInBounds_toArray, List.set_cons_zero, List.set_cons_succ])
                          refine AllS.take (i := 13) (v := ?_) (by rw [List.getElem?_toArray]; rfl) (by kernel_rfl) (by kernel_rfl) (by kernel_rfl) (KeepsIf.read (by rfl) ?_) ?_
                          rotate_left
                          · intro W hSw
                            (try dsimp only at hSw)
                            go_simp
                            (try with_reducible rfl)
                          rotate_left
                          (try simp only [Act.put, List.setIfInBounds_toArray, List.set_cons_zero, List.set_cons_succ])
                          refine AllS.take (i := 14) (v := ?_) (by rw [List.getElem?_toArray]; rfl) (by kernel_rfl) (by kernel_rfl) (by kernel_rfl) (KeepsIf.read (by rfl) ?_) ?_
                          rotate_left
                          · intro W hSw
                            (try dsimp only at hSw)
                            go_simp
                            (try with_reducible rfl)
                          rotate_left
                          (try simp only [Act.put, List.setIfInBounds_toArray, List.set_cons_zero, List.set_cons_succ])
                          refine AllS.take (i := 15) (v := ?_) (by rw [List.getElem?_toArray]; rfl) (by kernel_rfl) (by kernel_rfl) (by kernel_rfl) (KeepsIf.read (by rfl) ?_) ?_
                          rotate_left
                          · intro W hSw
                            (try dsimp only at hSw)
                            go_simp
                            (try with_reducible rfl)
                          rotate_left
                          (try simp only [Act.put, List.setIfInBounds_toArray, List.set_cons_zero, List.set_cons_succ])
                          refine AllS.take (i := 16) (v := ?_) (by rw [List.getElem?_toArray]; rfl) (by kernel_rfl) (by kernel_rfl) (by kernel_rfl) (KeepsIf.read (by rfl) ?_) ?_
                          rotate_left
                          · intro W hSw
                            (try dsimp only at hSw)
                            go_simp
                            (try with_reducible rfl)
                          rotate_left
                          (try simp only [Act.put, List.setIfInBounds_toArray, List.set_cons_zero, List.set_cons_succ])
                          refine AllS.take (i := 17) (v := ?_) (by rw [List.getElem?_toArray]; rfl) (by kernel_rfl) (by kernel_rfl) (by kernel_rfl) (KeepsIf.read (by rfl) ?_) ?_
                          rotate_left
                          · intro W hSw
                            (try dsimp only at hSw)
                            go_simp
                            (try with_reducible rfl)
                          rotate_left
                          (try simp only [Act.put, List.setIfInBounds_toArray, List.set_cons_zero, List.set_cons_succ])
                          refine AllS.take (i := 18) (v := ?_) (by rw [List.getElem?_toArray]; rfl) (by kernel_rfl) (by kernel_rfl) (by kernel_rfl) (KeepsIf.read (by rfl) ?_) ?_
                          rotate_left
                          · intro W hSw
                            (try dsimp only at hSw)
                            have cq : W.cell? ⟨w8.heap.size, k, none⟩ = some (.bool true) := ((BK11.keep (S := fun _ => False) (Mod.of_below hSw) id).cell k).trans HSE.out
                            go_simp
                            (try with_reducible rfl)
                          rotate_left
                          (try simp only [Act.put, List.setIfInBounds_toArray, List.set_cons_zero, List.set_cons_succ])
                          refine AllS.take (i := 19) (v := ?_) (by rw [List.getElem?_toArray]; rfl) (by kernel_rfl) (by kernel_rfl) (by kernel_rfl) (KeepsIf.read (by rfl) ?_) ?_
                          rotate_left
                          · intro W hSw
                            (try dsimp only at hSw)
                            go_simp
                            (try with_reducible rfl)
                          rotate_left
                          (try simp only [Act.put, List.setIfInBounds_toArray, List.set_cons_zero, List.set_cons_succ])
                          refine AllS.take (i := 20) (v := ?_) (by rw [List.getElem?_toArray]; rfl) (by kernel_rfl) (by kernel_rfl) (by kernel_rfl) (KeepsIf.read (by rfl) ?_) ?_
                          rotate_left
                          · intro W hSw
                            (try dsimp only at hSw)
                            go_simp
                            (try with_reducible rfl)
                          rotate_left
                          (try simp only [Act.put, List.setIfInBounds_toArray, List.set_cons_zero, List.set_cons_succ])
                          refine AllS.take (i := 21) (v := undef) (by rw [List.getElem?_toArray]; rfl) (by kernel_rfl) (by kernel_rfl) (by kernel_rfl) (KeepsIf.un (by kernel_rfl)) ?_
                          (try simp only [Act.put, List.setIfInBounds_toArray, List.set_cons_zero, List.set_cons_succ])
                          refine AllS.take (i := 22) (v := undef) (by rw [List.getElem?_toArray]; rfl) (by kernel_rfl) (by kernel_rfl) (by kernel_rfl) (KeepsIf.un (by kernel_rfl)) ?_
                          (try simp only [Act.put, List.setIfInBounds_toArray, List.set_cons_zero, List.set_cons_succ])
                          refine AllS.take (i := 23) (v := undef) (by rw [List.getElem?_toArray]; rfl) (by kernel_rfl) (by kernel_rfl) (by kernel_rfl) (KeepsIf.un (by kernel_rfl)) ?_
                          (try simp only [Act.put, List.setIfInBounds_toArray, List.set_cons_zero, List.set_cons_succ])
                          refine AllS.take (i := 24) (v := undef) (by rw [List.getElem?_toArray]; rfl) (by kernel_rfl) (by kernel_rfl) (by kernel_rfl) (KeepsIf.un (by kernel_rfl)) ?_
                          (try simp only [Act.put, List.setIfInBounds_toArray, List.set_cons_zero, List.set_cons_succ])
                          refine AllS.take (i := 25) (v := undef) (by rw [List.getElem?_toArray]; rfl) (by kernel_rfl) (by kernel_rfl) (by kernel_rfl) (KeepsIf.un (by kernel_rfl)) ?_
                          (try simp only [Act.put, List.setIfInBounds_toArray, List.set_cons_zero, List.set_cons_succ])
                          refine AllS.take (i := 26) (v := undef) (by rw [List.getElem?_toArray]; rfl) (by kernel_rfl) (by kernel_rfl) (by kernel_rfl) (KeepsIf.un (by kernel_rfl)) ?_
                          (try simp only [Act.put, List.setIfInBounds_toArray, List.set_cons_zero, List.set_cons_succ])
                          refine AllS.take (i := 27) (v := undef) (by rw [List.getElem?_toArray]; rfl) (by kernel_rfl) (by kernel_rfl) (by kernel_rfl) (KeepsIf.un (by kernel_rfl)) ?_
                          (try simp only [Act.put, List.setIfInBounds_toArray, List.set_cons_zero, List.set_cons_succ])
                          refine AllS.take (i := 28) (v := undef) (by rw [List.getElem?_toArray]; rfl) (by kernel_rfl) (by kernel_rfl) (by kernel_rfl) (KeepsIf.un (by kernel_rfl)) ?_
                          (try simp only [Act.put, List.setIfInBounds_toArray, List.set_cons_zero, List.set_cons_succ])
                          refine AllS.take (i := 29) (v := undef) (by rw [List.getElem?_toArray]; rfl) (by kernel_rfl) (by kernel_rfl) (by kernel_rfl) (KeepsIf.un (by kernel_rfl)) ?_
                          (try simp only [Act.put, List.setIfInBounds_toArray, List.set_cons_zero, List.set_cons_succ])
                          refine AllS.take (i := 30) (v := ?_) (by rw [List.getElem?_toArray]; rfl) (by kernel_rfl) (by kernel_rfl) (by kernel_rfl) (KeepsIf.read (by rfl) ?_) ?_
                          rotate_left
                          · intro W hSw
                            (try dsimp only at hSw)
                            go_simp
                            (try with_reducible rfl)
                          rotate_left
                          (try simp only [Act.put, List.setIfInBounds_toArray, List.set_cons_zero, List.set_cons_succ])
                          refine AllS.take (i := 31) (v := ?_) (by rw [List.getElem?_toArray]; rfl) (by kernel_rfl) (by kernel_rfl) (by kernel_rfl) (KeepsIf.read (by rfl) ?_) ?_
                          rotate_left
                          · intro W hSw
                            (try dsimp only at hSw)
                            go_simp
                            (try with_reducible rfl)
                          rotate_left
                          (try simp only [Act.put, List.setIfInBounds_toArray, List.set_cons_zero, List.set_cons_succ])
                          refine AllS.done (by kernel_rfl) (hR.out _ ?_) _
                          clear hR R
                          intro w12 b12
                          go_wp2_with fail
                          go_roundg (m - (k + 1))
                          case measure => omega
                          case rel => exact ⟨k + 1, by go_num, by omega, rfl, bel11.trans (b12.mono bel11.size), _, BK11.keep (S := fun _ => False) (Mod.of_below b12) id, HBR.out.step hlt (fun h => by cases h)⟩
                        · have HEN : Hid (((dk.n : Int) == 0) = false ∧ ¬ dk.n = 0) := ⟨by simp; omega, hn0⟩
                          have HN1 := Lib.hid (fun w => neS u u w true (decide_eq_true rfl))
                          simp only [Bool.not_true] at HN1
                          go_wp2_with fail
                          refine (CF.out _).mono ?_
                          rintro e w9 ⟨rfl, b9⟩
                          have bel9 := (bel.setCell (p := ⟨w8.heap.size, k, none⟩) (Nat.le_refl _) (.bool true)).trans (b9.mono ((bel.setCell (p := ⟨w8.heap.size, k, none⟩) (Nat.le_refl _) (.bool true)).size))
                          have BK9 := (HBB.out.set_ k (.bool true)).keep (S := fun _ => False) (Mod.of_below b9) id
                          clear ck fk cz cp b9
                          go_wp2_with (first
                            | (refine nwS rfl rfl 14 rfl rfl (.tmp 116) rfl rfl .first (fun _ => rfl) (fun _ => rfl) ?_; intro w10 b10 B10; have bel10 := bel9.trans (b10.mono bel9.size); have cp10 := HC.out w10 bel10; have BK10 := BK9.keep (S := fun _ => False) (Mod.of_below b10) id; have hl9 : w8.heap.size < w9.heap.size := BK9.lt)
                            | (refine ldS rfl (.tmp 127) rfl _ rfl U (ha4 ▸ HLP.out w10 bel10) ?_)
                            | (refine stS rfl (.tmp 14) (.tmp 128) rfl rfl _ rfl U rfl .first B10 ?_; intro w11 m11 B11))
                          have bel11 := bel10.trans (m11.below bel10.size (fun k hk => by omega))
                          have BK11 := BK10.keep m11 (by omega)
                          have HSE : Hid ((cs.setIfInBounds k (.bool true))[k]? = some (.bool true)) := Array.getElem?_setIfInBounds_self_of_lt (by rw [HBR.out.1]; exact hlt)
                          refine region_go (by kernel_rfl) (fun R hR => ?_)
                          refine AllS.take (i := 0) (v := ?_) (by rw [List.getElem?_toArray]; rfl) (by kernel_rfl) (by kernel_rfl) (by kernel_rfl) (KeepsIf.read (by rfl) ?_) ?_
                          rotate_left
                          · intro W hSw
                            (try dsimp only at hSw)
                            go_simp
                            (try with_reducible rfl)
                          rotate_left
                          (try simp only [Act.put, List.setIfInBounds_toArray, List.set_cons_zero, List.set_cons_succ])
                          refine AllS.take (i := 1) (v := ?_) (by rw [List.getElem?_toArray]; rfl) (by kernel_rfl) (by kernel_rfl) (by kernel_rfl) (KeepsIf.read (by rfl) ?_) ?_
                          rotate_left
                          · intro W hSw
                            (try dsimp only at hSw)
                            go_simp
                            (try with_reducible rfl)
                          rotate_left
                          (try simp only [Act.put, List.setIfInBounds_toArray, List.set_cons_zero, List.set_cons_succ])
                          refine AllS.take (i := 2) (v := ?_) (by rw [List.getElem?_toArray]; rfl) (by kernel_rfl) (by kernel_rfl) (by kernel_rfl) (KeepsIf.read (by rfl) ?_) ?_
                          rotate_left
                          · intro W hSw
                            (try dsimp only at hSw)
                            go_simp
                            (try with_reducible rfl)
                          rotate_left
                          (try simp only [Act.put, List.setIfInBounds_toArray, List.set_cons_zero, List.set_cons_succ])
                          refine AllS.take (i := 3) (v := ?_) (by rw [List.getElem?_toArray]; rfl) (by kernel_rfl) (by kernel_rfl) (by kernel_rfl) (KeepsIf.read (by rfl) ?_) ?_
                          rotate_left
                          · intro W hSw
                            (try dsimp only at hSw)
                            go_simp
                            (try with_reducible rfl)
                          rotate_left
                          (try simp only [Act.put, List.setIfInBounds_toArray, List.set_cons_zero, List.set_cons_succ])
                          refine AllS.take (i := 4) (v := ?_) (by rw [List.getElem?_toArray]; rfl) (by kernel_rfl) (by kernel_rfl) (by kernel_rfl) (KeepsIf.read (by rfl) ?_) ?_
                          rotate_left
                          · intro W hSw
                            (try dsimp only at hSw)
                            have cq := HLD.out W (bel11.trans (hSw.mono bel11.size))
                            go_simp
                            (try with_reducible rfl)
                          rotate_left
                          (try simp only [Act.put, List.setIfInBounds_toArray, List.set_cons_zero, List.set_cons_succ])
                          refine AllS.take (i := 5) (v := .bool false) (by rw [List.getElem?_toArray]; rfl) (by kernel_rfl) (by kernel_rfl) (by kernel_rfl) (KeepsIf.read (by rfl) (fun W hSw => ?_)) ?_
                          · (try dsimp only at hSw)
                            have en := HEN.out; go_simp
                          (try simp only [Act.put, List.setIfInBounds_toArray, List.set_cons_zero, List.set_cons_succ])
                          refine AllS.take (i := 6) (v := ?_) (by rw [List.getElem?_toArray]; rfl) (by kernel_rfl) (by kernel_rfl) (by kernel_rfl) (KeepsIf.read (by rfl) ?_) ?_
                          rotate_left
                          · intro W hSw
                            (try dsimp only at hSw)
                            go_simp
                            (try with_reducible rfl)
                          rotate_left
                          (try simp only [Act.put, List.setIfInBounds_toArray, List.set_cons_zero, List.set_cons_succ])
                          refine AllS.take (i := 7) (v := undef) (by rw [List.getElem?_toArray]; rfl) (by kernel_rfl) (by kernel_rfl) (by kernel_rfl) (KeepsIf.un (by kernel_rfl)) ?_
                          (try simp only [Act.put, List.setIfInBounds_toArray, List.set_cons_zero, List.set_cons_succ])
                          refine AllS.take (i := 8) (v := undef) (by rw [List.getElem?_toArray]; rfl) (by kernel_rfl) (by kernel_rfl) (by kernel_rfl) (KeepsIf.un (by kernel_rfl)) ?_
                          (try simp only [Act.put, List.setIfInBounds_toArray, List.set_cons_zero, List.set_cons_succ])
                          refine AllS.take (i := 9) (v := undef) (by rw [List.getElem?_toArray]; rfl) (by kernel_rfl) (by kernel_rfl) (by kernel_rfl) (KeepsIf.un (by kernel_rfl)) ?_
                          (try simp only [Act.put, List.setIfInBounds_toArray, List.set_cons_zero, List.set_cons_succ])
                          refine AllS.take (i := 10) (v := undef) (by rw [List.getElem?_toArray]; rfl) (by kernel_rfl) (by kernel_rfl) (by kernel_rfl) (KeepsIf.un (by kernel_rfl)) ?_
                          (try simp only [Act.put, List.setIfInBounds_toArray, List.set_cons_zero, List.set_cons_succ])
                          refine AllS.take (i := 11) (v := undef) (by rw [List.getElem?_toArray]; rfl) (by kernel_rfl) (by kernel_rfl) (by kernel_rfl) (KeepsIf.un (by kernel_rfl)) ?_
                          (try simp only [Act.put, List.setIfInBounds_toArray, List.set_cons_zero, List.set_cons_succ])
                          refine AllS.take (i := 12) (v := undef) (by rw [List.getElem?_toArray]; rfl) (by kernel_rfl) (by kernel_rfl) (by kernel_rfl) (KeepsIf.un (by kernel_rfl)) ?_
                          (try simp only [Act.put, List.setIfInBounds_toArray, List.set_cons_zero, List.set_cons_succ])
                          refine AllS.take (i := 13) (v := ?_) (by rw [List.getElem?_toArray]; rfl) (by kernel_rfl) (by kernel_rfl) (by kernel_rfl) (KeepsIf.read (by rfl) ?_) ?_
                          rotate_left
                          · intro W hSw
                            (try dsimp only at hSw)
                            go_simp
                            (try with_reducible rfl)
                          rotate_left
                          (try simp only [Act.put, List.setIfInBounds_toArray, List.set_cons_zero, List.set_cons_succ])
                          refine AllS.take (i := 14) (v := ?_) (by rw [List.getElem?_toArray]; rfl) (by kernel_rfl) (by kernel_rfl) (by kernel_rfl) (KeepsIf.read (by rfl) ?_) ?_
                          rotate_left
                          · intro W hSw
                            (try dsimp only at hSw)
                            go_simp
                            (try with_reducible rfl)
                          rotate_left
                          (try simp only [Act.put, List.setIfInBounds_toArray, List.set_cons_zero, List.set_cons_succ])
                          refine AllS.take (i := 15) (v := ?_) (by rw [List.getElem?_toArray]; rfl) (by kernel_rfl) (by kernel_rfl) (by kernel_rfl) (KeepsIf.read (by rfl) ?_) ?_
                          rotate_left
                          · intro W hSw
                            (try dsimp only at hSw)
                            go_simp
                            (try with_reducible rfl)
                          rotate_left
                          (try simp only [Act.put, List.setIfInBounds_toArray, List.set_cons_zero, List.set_cons_succ])
                          refine AllS.take (i := 16) (v := ?_) (by rw [List.getElem?_toArray]; rfl) (by kernel_rfl) (by kernel_rfl) (by kernel_rfl) (KeepsIf.read (by rfl) ?_) ?_
                          rotate_left
                          · intro W hSw
                            (try dsimp only at hSw)
                            go_simp
                            (try with_reducible rfl)
                          rotate_left
                          (try simp only [Act.put, List.setIfInBounds_toArray, List.set_cons_zero, List.set_cons_succ])
                          refine AllS.take (i := 17) (v := ?_) (by rw [List.getElem?_toArray]; rfl) (by kernel_rfl) (by kernel_rfl) (by kernel_rfl) (KeepsIf.read (by rfl) ?_) ?_
                          rotate_left
                          · intro W hSw
                            (try dsimp only at hSw)
                            go_simp
                            (try with_reducible rfl)
                          rotate_left
                          (try simp only [Act.put, List.setIfInBounds_toArray, List.set_cons_zero, List.set_cons_succ])
                          refine AllS.take (i := 18) (v := ?_) (by rw [List.getElem?_toArray]; rfl) (by kernel_rfl) (by kernel_rfl) (by kernel_rfl) (KeepsIf.read (by rfl) ?_) ?_
                          rotate_left
                          · intro W hSw
                            (try dsimp only at hSw)
                            have cq : W.cell? ⟨w8.heap.size, k, none⟩ = some (.bool true) := ((BK11.keep (S := fun _ => False) (Mod.of_below hSw) id).cell k).trans HSE.out
                            go_simp
                            (try with_reducible rfl)
                          rotate_left
                          (try simp only [Act.put, List.setIfInBounds_toArray, List.set_cons_zero, List.set_cons_succ])
                          refine AllS.take (i := 19) (v := ?_) (by rw [List.getElem?_toArray]; rfl) (by kernel_rfl) (by kernel_rfl) (by kernel_rfl) (KeepsIf.read (by rfl) ?_) ?_
                          rotate_left
                          · intro W hSw
                            (try dsimp only at hSw)
                            go_simp
                            (try with_reducible rfl)
                          rotate_left
                          (try simp only [Act.put, List.setIfInBounds_toArray, List.set_cons_zero, List.set_cons_succ])
                          refine AllS.take (i := 20) (v := ?_) (by rw [List.getElem?_toArray]; rfl) (by kernel_rfl) (by kernel_rfl) (by kernel_rfl) (KeepsIf.read (by rfl) ?_) ?_
                          rotate_left
                          · intro W hSw
                            (try dsimp only at hSw)
                            go_simp
                            (try with_reducible rfl)
                          rotate_left
                          (try simp only [Act.put, List.setIfInBounds_toArray, List.set_cons_zero, List.set_cons_succ])
                          refine AllS.take (i := 21) (v := undef) (by rw [List.getElem?_toArray]; rfl) (by kernel_rfl) (by kernel_rfl) (by kernel_rfl) (KeepsIf.un (by kernel_rfl)) ?_
                          (try simp only [Act.put, List.setIfInBounds_toArray, List.set_cons_zero, List.set_cons_succ])
                          refine AllS.take (i := 22) (v := undef) (by rw [List.getElem?_toArray]; rfl) (by kernel_rfl) (by kernel_rfl) (by kernel_rfl) (KeepsIf.un (by kernel_rfl)) ?_
                          (try simp only [Act.put, List.setIfInBounds_toArray, List.set_cons_zero, List.set_cons_succ])
                          refine AllS.take (i := 23) (v := undef) (by rw [List.getElem?_toArray]; rfl) (by kernel_rfl) (by kernel_rfl) (by kernel_rfl) (KeepsIf.un (by kernel_rfl)) ?_
                          (try simp only [Act.put, List.setIfInBounds_toArray, List.set_cons_zero, List.set_cons_succ])
                          refine AllS.take (i := 24) (v := undef) (by rw [List.getElem?_toArray]; rfl) (by kernel_rfl) (by kernel_rfl) (by kernel_rfl) (KeepsIf.un (by kernel_rfl)) ?_
                          (try simp only [Act.put, List.setIfInBounds_toArray, List.set_cons_zero, List.set_cons_succ])
                          refine AllS.take (i := 25) (v := undef) (by rw [List.getElem?_toArray]; rfl) (by kernel_rfl) (by kernel_rfl) (by kernel_rfl) (KeepsIf.un (by kernel_rfl)) ?_
                          (try simp only [Act.put, List.setIfInBounds_toArray, List.set_cons_zero, List.set_cons_succ])
                          refine AllS.take (i := 26) (v := undef) (by rw [List.getElem?_toArray]; rfl) (by kernel_rfl) (by kernel_rfl) (by kernel_rfl) (KeepsIf.un (by kernel_rfl)) ?_
                          (try simp only [Act.put, List.setIfInBounds_toArray, List.set_cons_zero, List.set_cons_succ])
                          refine AllS.take (i := 27) (v := undef) (by rw [List.getElem?_toArray]; rfl) (by kernel_rfl) (by kernel_rfl) (by kernel_rfl) (KeepsIf.un (by kernel_rfl)) ?_
                          (try simp only [Act.put, List.setIfInBounds_toArray, List.set_cons_zero, List.set_cons_succ])
                          refine AllS.take (i := 28) (v := undef) (by rw [List.getElem?_toArray]; rfl) (by kernel_rfl) (by kernel_rfl) (by kernel_rfl) (KeepsIf.un (by kernel_rfl)) ?_
                          (try simp only [Act.put, List.setIfInBounds_toArray, List.set_cons_zero, List.set_cons_succ])
                          refine AllS.take (i := 29) (v := undef) (by rw [List.getElem?_toArray]; rfl) (by kernel_rfl) (by kernel_rfl) (by kernel_rfl) (KeepsIf.un (by kernel_rfl)) ?_
                          (try simp only [Act.put, List.setIfInBounds_toArray, List.set_cons_zero, List.set_cons_succ])
                          refine AllS.take (i := 30) (v := ?_) (by rw [List.getElem?_toArray]; rfl) (by kernel_rfl) (by kernel_rfl) (by kernel_rfl) (KeepsIf.read (by rfl) ?_) ?_
                          rotate_left
                          · intro W hSw
                            (try dsimp only at hSw)
                            go_simp
                            (try with_reducible rfl)
                          rotate_left
                          (try simp only [Act.put, List.setIfInBounds_toArray, List.set_cons_zero, List.set_cons_succ])
                          refine AllS.take (i := 31) (v := ?_) (by rw [List.getElem?_toArray]; rfl) (by kernel_rfl) (by kernel_rfl) (by kernel_rfl) (KeepsIf.read (by rfl) ?_) ?_
                          rotate_left
                          · intro W hSw
                            (try dsimp only at hSw)
                            go_simp
                            (try with_reducible rfl)
                          rotate_left
                          (try simp only [Act.put, List.setIfInBounds_toArray, List.set_cons_zero, List.set_cons_succ])
                          refine AllS.done (by kernel_rfl) (hR.out _ ?_) _
                          clear hR R
                          intro w12 b12
                          go_wp2_with fail
                          go_roundg (m - (k + 1))
                          case measure => omega
                          case rel => exact ⟨k + 1, by go_num, by omega, rfl, bel11.trans (b12.mono bel11.size), _, BK11.keep (S := fun _ => False) (Mod.of_below b12) id, HBR.out.step hlt (fun h => by cases h)⟩
                      | false =>
                        obtain rfl : u = sb := sameP.out rfl
                        by_cases hn0 : dk.n = 0
                        · have HEN : Hid (((dk.n : Int) == 0) = true ∧ dk.n = 0) := ⟨by rw [hn0]; rfl, hn0⟩
                          have hUu : u = U := by
                            have h2 := eA'.out
                            rw [upA.out, over_n0 _ _ hn0] at h2
                            exact h2
                          subst hUu
                          have HN1 := Lib.hid (fun w => neS u u w true (decide_eq_true rfl))
                          simp only [Bool.not_true] at HN1
                          go_wp2_with fail
                          refine (CF.out _).mono ?_
                          rintro e w9 ⟨rfl, b9⟩
                          have bel9 := (bel.setCell (p := ⟨w8.heap.size, k, none⟩) (Nat.le_refl _) (.bool false)).trans (b9.mono ((bel.setCell (p := ⟨w8.heap.size, k, none⟩) (Nat.le_refl _) (.bool false)).size))
                          have BK9 := (HBB.out.set_ k (.bool false)).keep (S := fun _ => False) (Mod.of_below b9) id
                          clear ck fk cz cp b9
                          go_wp2_with (first
                            | (refine nwS rfl rfl 14 rfl rfl (.tmp 116) rfl rfl .first (fun _ => rfl) (fun _ => rfl) ?_; intro w10 b10 B10; have bel10 := bel9.trans (b10.mono bel9.size); have cp10 := HC.out w10 bel10; have BK10 := BK9.keep (S := fun _ => False) (Mod.of_below b10) id; have hl9 : w8.heap.size < w9.heap.size := BK9.lt)
                            | (refine ldS rfl (.tmp 127) rfl _ rfl u (ha4 ▸ HLP.out w10 bel10) ?_)
                            | (refine stS rfl (.tmp 14) (.tmp 128) rfl rfl _ rfl u rfl .first B10 ?_; intro w11 m11 B11))
                          have bel11 := bel10.trans (m11.below bel10.size (fun k hk => by omega))
                          have BK11 := BK10.keep m11 (by omega)
                          have HSE : Hid ((cs.setIfInBounds k (.bool false))[k]? = some (.bool false)) := Array.getElem?_setIfInBounds_self_of_lt (by rw [HBR.out.1]; exact hlt)
                          refine region_go (by kernel_rfl) (fun R hR => ?_)
                          refine AllS.take (i := 0) (v := ?_) (by rw [List.getElem?_toArray]; rfl) (by kernel_rfl) (by kernel_rfl) (by kernel_rfl) (KeepsIf.read (by rfl) ?_) ?_
                          rotate_left
                          · intro W hSw
                            (try dsimp only at hSw)
                            go_simp
                            (try with_reducible rfl)
                          rotate_left
                          (try simp only [Act.put, List.setIfInBounds_toArray, List.set_cons_zero, List.set_cons_succ])
                          refine AllS.take (i := 1) (v := ?_) (by rw [List.getElem?_toArray]; rfl) (by kernel_rfl) (by kernel_rfl) (by kernel_rfl) (KeepsIf.read (by rfl) ?_) ?_
                          rotate_left
                          · intro W hSw
                            (try dsimp only at hSw)
                            go_simp
                            (try with_reducible rfl)
                          rotate_left
                          (try simp only [Act.put, List.setIfInBounds_toArray, List.set_cons_zero, List.set_cons_succ])
                          refine AllS.take (i := 2) (v := ?_) (by rw [List.getElem?_toArray]; rfl) (by kernel_rfl) (by kernel_rfl) (by kernel_rfl) (KeepsIf.read (by rfl) ?_) ?_
                          rotate_left
                          · intro W hSw
                            (try dsimp only at hSw)
                            go_simp
                            (try with_reducible rfl)
                          rotate_left
                          (try simp only [Act.put, List.setIfInBounds_toArray, List.set_cons_zero, List.set_cons_succ])
                          refine AllS.take (i := 3) (v := ?_) (by rw [List.getElem?_toArray]; rfl) (by kernel_rfl) (by kernel_rfl) (by kernel_rfl) (KeepsIf.read (by rfl) ?_) ?_
                          rotate_left
                          · intro W hSw
                            (try dsimp only at hSw)
                            go_simp
                            (try with_reducible rfl)
                          rotate_left
                          (try simp only [Act.put, List.setIfInBounds_toArray, List.set_cons_zero, List.set_cons_succ])
                          refine AllS.take (i := 4) (v := ?_) (by rw [List.getElem?_toArray]; rfl) (by kernel_rfl) (by kernel_rfl) (by kernel_rfl) (KeepsIf.read (by rfl) ?_) ?_
                          rotate_left
                          · intro W hSw
                            (try dsimp only at hSw)
                            have cq := HLD.out W (bel11.trans (hSw.mono bel11.size))
                            go_simp
                            (try with_reducible rfl)
                          rotate_left
                          (try simp only [Act.put, List.setIfInBounds_toArray, List.set_cons_zero, List.set_cons_succ])
                          refine AllS.take (i := 5) (v := .bool true) (by rw [List.getElem?_toArray]; rfl) (by kernel_rfl) (by kernel_rfl) (by kernel_rfl) (KeepsIf.read (by rfl) (fun W hSw => ?_)) ?_
                          · (try dsimp only at hSw)
                            have en := HEN.out; go_simp
                          (try simp only [Act.put, List.setIfInBounds_toArray, List.set_cons_zero, List.set_cons_succ])
                          refine AllS.take (i := 6) (v := ?_) (by rw [List.getElem?_toArray]; rfl) (by kernel_rfl) (by kernel_rfl) (by kernel_rfl) (KeepsIf.read (by rfl) ?_) ?_
                          rotate_left
                          · intro W hSw
                            (try dsimp only at hSw)
                            go_simp
                            (try with_reducible rfl)
                          rotate_left
                          (try simp only [Act.put, List.setIfInBounds_toArray, List.set_cons_zero, List.set_cons_succ])
                          refine AllS.take (i := 7) (v := ?_) (by rw [List.getElem?_toArray]; rfl) (by kernel_rfl) (by kernel_rfl) (by kernel_rfl) (KeepsIf.read (by rfl) ?_) ?_
                          rotate_left
                          · intro W hSw
                            (try dsimp only at hSw)
                            go_simp
                            (try with_reducible rfl)
                          rotate_left
                          (try simp only [Act.put, List.setIfInBounds_toArray, List.set_cons_zero, List.set_cons_succ])
                          refine AllS.take (i := 8) (v := ?_) (by rw [List.getElem?_toArray]; rfl) (by kernel_rfl) (by kernel_rfl) (by kernel_rfl) (KeepsIf.read (by rfl) ?_) ?_
                          rotate_left
                          · intro W hSw
                            (try dsimp only at hSw)
                            go_simp
                            (try with_reducible rfl)
                          rotate_left
                          (try simp only [Act.put, List.setIfInBounds_toArray, List.set_cons_zero, List.set_cons_succ])
                          refine AllS.take (i := 9) (v := ?_) (by rw [List.getElem?_toArray]; rfl) (by kernel_rfl) (by kernel_rfl) (by kernel_rfl) (KeepsIf.read (by rfl) ?_) ?_
                          rotate_left
                          · intro W hSw
                            (try dsimp only at hSw)
                            go_simp
                            (try with_reducible rfl)
                          rotate_left
                          (try simp only [Act.put, List.setIfInBounds_toArray, List.set_cons_zero, List.set_cons_succ])
                          refine AllS.take (i := 10) (v := .agg u.cells) (by rw [List.getElem?_toArray]; rfl) (by kernel_rfl) (by kernel_rfl) (by kernel_rfl) (KeepsIf.read (by rfl) (fun W hSw => ?_)) ?_
                          · (try dsimp only at hSw)
                            exact rdS (.tmp 138) rfl _ rfl _ (ha2 ▸ HLU.out W (bel11.trans (hSw.mono bel11.size)))
                          (try simp only [Act.put, List.setIfInBounds_toArray, List.set_cons_zero, List.set_cons_succ])
                          refine AllS.take (i := 11) (v := .agg u.cells) (by rw [List.getElem?_toArray]; rfl) (by kernel_rfl) (by kernel_rfl) (by kernel_rfl) (KeepsIf.read (by rfl) (fun W hSw => ?_)) ?_
                          · (try dsimp only at hSw)
                            exact rdS (.tmp 14) rfl _ rfl _ (B11.keep (S := fun _ => False) (Mod.of_below hSw) id).lies
                          (try simp only [Act.put, List.setIfInBounds_toArray, List.set_cons_zero, List.set_cons_succ])
                          refine AllS.take (i := 12) (v := .bool false) (by rw [List.getElem?_toArray]; rfl) (by kernel_rfl) (by kernel_rfl) (by kernel_rfl) (KeepsIf.read (by rfl) (fun W hSw => ?_)) ?_
                          · (try dsimp only at hSw)
                            have hne := HN1.out; go_simp
                          (try simp only [Act.put, List.setIfInBounds_toArray, List.set_cons_zero, List.set_cons_succ])
                          refine AllS.take (i := 13) (v := ?_) (by rw [List.getElem?_toArray]; rfl) (by kernel_rfl) (by kernel_rfl) (by kernel_rfl) (KeepsIf.read (by rfl) ?_) ?_
                          rotate_left
                          · intro W hSw
                            (try dsimp only at hSw)
                            go_simp
                            (try with_reducible rfl)
                          rotate_left
                          (try simp only [Act.put, List.setIfInBounds_toArray, List.set_cons_zero, List.set_cons_succ])
                          refine AllS.take (i := 14) (v := ?_) (by rw [List.getElem?_toArray]; rfl) (by kernel_rfl) (by kernel_rfl) (by kernel_rfl) (KeepsIf.read (by rfl) ?_) ?_
                          rotate_left
                          · intro W hSw
                            (try dsimp only at hSw)
                            go_simp
                            (try with_reducible rfl)
                          rotate_left
                          (try simp only [Act.put, List.setIfInBounds_toArray, List.set_cons_zero, List.set_cons_succ])
                          refine AllS.take (i := 15) (v := ?_) (by rw [List.getElem?_toArray]; rfl) (by kernel_rfl) (by kernel_rfl) (by kernel_rfl) (KeepsIf.read (by rfl) ?_) ?_
                          rotate_left
                          · intro W hSw
                            (try dsimp only at hSw)
                            go_simp
                            (try with_reducible rfl)
                          rotate_left
                          (try simp only [Act.put, List.setIfInBounds_toArray, List.set_cons_zero, List.set_cons_succ])
                          refine AllS.take (i := 16) (v := ?_) (by rw [List.getElem?_toArray]; rfl) (by kernel_rfl) (by kernel_rfl) (by kernel_rfl) (KeepsIf.read (by rfl) ?_) ?_
                          rotate_left
                          · intro W hSw
                            (try dsimp only at hSw)
                            go_simp
                            (try with_reducible rfl)
                          rotate_left
                          (try simp only [Act.put, List.setIfInBounds_toArray, List.set_cons_zero, List.set_cons_succ])
                          refine AllS.take (i := 17) (v := ?_) (by rw [List.getElem?_toArray]; rfl) (by kernel_rfl) (by kernel_rfl) (by kernel_rfl) (KeepsIf.read (by rfl) ?_) ?_
                          rotate_left
                          · intro W hSw
                            (try dsimp only at hSw)
                            go_simp
                            (try with_reducible rfl)
                          rotate_left
                          (try simp only [Act.put, List.setIfInBounds_toArray, List.set_cons_zero, List.set_cons_succ])
                          refine AllS.take (i := 18) (v := ?_) (by rw [List.getElem?_toArray]; rfl) (by kernel_rfl) (by kernel_rfl) (by kernel_rfl) (KeepsIf.read (by rfl) ?_) ?_
                          rotate_left
                          · intro W hSw
                            (try dsimp only at hSw)
                            have cq : W.cell? ⟨w8.heap.size, k, none⟩ = some (.bool false) := ((BK11.keep (S := fun _ => False) (Mod.of_below hSw) id).cell k).trans HSE.out
                            go_simp
                            (try with_reducible rfl)
                          rotate_left
                          (try simp only [Act.put, List.setIfInBounds_toArray, List.set_cons_zero, List.set_cons_succ])
                          refine AllS.take (i := 19) (v := ?_) (by rw [List.getElem?_toArray]; rfl) (by kernel_rfl) (by kernel_rfl) (by kernel_rfl) (KeepsIf.read (by rfl) ?_) ?_
                          rotate_left
                          · intro W hSw
                            (try dsimp only at hSw)
                            go_simp
                            (try with_reducible rfl)
                          rotate_left
                          (try simp only [Act.put, List.setIfInBounds_toArray, List.set_cons_zero, List.set_cons_succ])
                          refine AllS.take (i := 20) (v := ?_) (by rw [List.getElem?_toArray]; rfl) (by kernel_rfl) (by kernel_rfl) (by kernel_rfl) (KeepsIf.read (by rfl) ?_) ?_
                          rotate_left
                          · intro W hSw
                            (try dsimp only at hSw)
                            go_simp
                            (try with_reducible rfl)
                          rotate_left
                          (try simp only [Act.put, List.setIfInBounds_toArray, List.set_cons_zero, List.set_cons_succ])
                          refine AllS.take (i := 21) (v := ?_) (by rw [List.getElem?_toArray]; rfl) (by kernel_rfl) (by kernel_rfl) (by kernel_rfl) (KeepsIf.read (by rfl) ?_) ?_
                          rotate_left
                          · intro W hSw
                            (try dsimp only at hSw)
                            go_simp
                            (try with_reducible rfl)
                          rotate_left
                          (try simp only [Act.put, List.setIfInBounds_toArray, List.set_cons_zero, List.set_cons_succ])
                          refine AllS.take (i := 22) (v := ?_) (by rw [List.getElem?_toArray]; rfl) (by kernel_rfl) (by kernel_rfl) (by kernel_rfl) (KeepsIf.read (by rfl) ?_) ?_
                          rotate_left
                          · intro W hSw
                            (try dsimp only at hSw)
                            go_simp
                            (try with_reducible rfl)
                          rotate_left
                          (try simp only [Act.put, List.setIfInBounds_toArray, List.set_cons_zero, List.set_cons_succ])
                          refine AllS.take (i := 23) (v := ?_) (by rw [List.getElem?_toArray]; rfl) (by kernel_rfl) (by kernel_rfl) (by kernel_rfl) (KeepsIf.read (by rfl) ?_) ?_
                          rotate_left
                          · intro W hSw
                            (try dsimp only at hSw)
                            go_simp
                            (try with_reducible rfl)
                          rotate_left
                          (try simp only [Act.put, List.setIfInBounds_toArray, List.set_cons_zero, List.set_cons_succ])
                          refine AllS.take (i := 24) (v := .agg u.cells) (by rw [List.getElem?_toArray]; rfl) (by kernel_rfl) (by kernel_rfl) (by kernel_rfl) (KeepsIf.read (by rfl) (fun W hSw => ?_)) ?_
                          · (try dsimp only at hSw)
                            exact rdS (.tmp 152) rfl _ rfl _ (ha2 ▸ HLU.out W (bel11.trans (hSw.mono bel11.size)))
                          (try simp only [Act.put, List.setIfInBounds_toArray, List.set_cons_zero, List.set_cons_succ])
                          refine AllS.take (i := 25) (v := ?_) (by rw [List.getElem?_toArray]; rfl) (by kernel_rfl) (by kernel_rfl) (by kernel_rfl) (KeepsIf.read (by rfl) ?_) ?_
                          rotate_left
                          · intro W hSw
                            (try dsimp only at hSw)
                            go_simp
                            (try with_reducible rfl)
                          rotate_left
                          (try simp only [Act.put, List.setIfInBounds_toArray, List.set_cons_zero, List.set_cons_succ])
                          refine AllS.take (i := 26) (v := ?_) (by rw [List.getElem?_toArray]; rfl) (by kernel_rfl) (by kernel_rfl) (by kernel_rfl) (KeepsIf.read (by rfl) ?_) ?_
                          rotate_left
                          · intro W hSw
                            (try dsimp only at hSw)
                            go_simp
                            (try with_reducible rfl)
                          rotate_left
                          (try simp only [Act.put, List.setIfInBounds_toArray, List.set_cons_zero, List.set_cons_succ])
                          refine AllS.take (i := 27) (v := ?_) (by rw [List.getElem?_toArray]; rfl) (by kernel_rfl) (by kernel_rfl) (by kernel_rfl) (KeepsIf.read (by rfl) ?_) ?_
                          rotate_left
                          · intro W hSw
                            (try dsimp only at hSw)
                            go_simp
                            (try with_reducible rfl)
                          rotate_left
                          (try simp only [Act.put, List.setIfInBounds_toArray, List.set_cons_zero, List.set_cons_succ])
                          refine AllS.take (i := 28) (v := .agg u.cells) (by rw [List.getElem?_toArray]; rfl) (by kernel_rfl) (by kernel_rfl) (by kernel_rfl) (KeepsIf.read (by rfl) (fun W hSw => ?_)) ?_
                          · (try dsimp only at hSw)
                            exact rdS (.tmp 156) rfl _ rfl _ (ha3 ▸ HLS.out W (bel11.trans (hSw.mono bel11.size)))
                          (try simp only [Act.put, List.setIfInBounds_toArray, List.set_cons_zero, List.set_cons_succ])
                          refine AllS.take (i := 29) (v := .bool false) (by rw [List.getElem?_toArray]; rfl) (by kernel_rfl) (by kernel_rfl) (by kernel_rfl) (KeepsIf.read (by rfl) (fun W hSw => ?_)) ?_
                          · (try dsimp only at hSw)
                            have hne := HN1.out; go_simp
                          (try simp only [Act.put, List.setIfInBounds_toArray, List.set_cons_zero, List.set_cons_succ])
                          refine AllS.take (i := 30) (v := ?_) (by rw [List.getElem?_toArray]; rfl) (by kernel_rfl) (by kernel_rfl) (by kernel_rfl) (KeepsIf.read (by rfl) ?_) ?_
                          rotate_left
                          · intro W hSw
                            (try dsimp only at hSw)
                            go_simp
                            (try with_reducible rfl)
                          rotate_left
                          (try simp only [Act.put, List.setIfInBounds_toArray, List.set_cons_zero, List.set_cons_succ])
                          refine AllS.take (i := 31) (v := ?_) (by rw [List.getElem?_toArray]; rfl) (by kernel_rfl) (by kernel_rfl) (by kernel_rfl) (KeepsIf.read (by rfl) ?_) ?_
                          rotate_left
                          · intro W hSw
                            (try dsimp only at hSw)
                            go_simp
                            (try with_reducible rfl)
                          rotate_left
                          (try simp only [Act.put, List.setIfInBounds_toArray, List.set_cons_zero, List.set_cons_succ])
                          refine AllS.done (by kernel_rfl) (hR.out _ ?_) _
                          clear hR R
                          intro w12 b12
                          go_wp2_with fail
                          go_roundg (m - (k + 1))
                          case measure => omega
                          case rel => exact ⟨k + 1, by go_num, by omega, rfl, bel11.trans (b12.mono bel11.size), _, BK11.keep (S := fun _ => False) (Mod.of_below b12) id, HBR.out.step hlt (fun _ => by first | exact HUV.out rfl | exact HUV.out trivial)⟩
                        · have HEN : Hid (((dk.n : Int) == 0) = false ∧ ¬ dk.n = 0) := ⟨by simp; omega, hn0⟩
                          have HN1 := Lib.hid (fun w => neS u u w true (decide_eq_true rfl))
                          simp only [Bool.not_true] at HN1
                          go_wp2_with fail
                          refine (CF.out _).mono ?_
                          rintro e w9 ⟨rfl, b9⟩
                          have bel9 := (bel.setCell (p := ⟨w8.heap.size, k, none⟩) (Nat.le_refl _) (.bool false)).trans (b9.mono ((bel.setCell (p := ⟨w8.heap.size, k, none⟩) (Nat.le_refl _) (.bool false)).size))
                          have BK9 := (HBB.out.set_ k (.bool false)).keep (S := fun _ => False) (Mod.of_below b9) id
                          clear ck fk cz cp b9
                          go_wp2_with (first
                            | (refine nwS rfl rfl 14 rfl rfl (.tmp 116) rfl rfl .first (fun _ => rfl) (fun _ => rfl) ?_; intro w10 b10 B10; have bel10 := bel9.trans (b10.mono bel9.size); have cp10 := HC.out w10 bel10; have BK10 := BK9.keep (S := fun _ => False) (Mod.of_below b10) id; have hl9 : w8.heap.size < w9.heap.size := BK9.lt)
                            | (refine ldS rfl (.tmp 127) rfl _ rfl U (ha4 ▸ HLP.out w10 bel10) ?_)
                            | (refine stS rfl (.tmp 14) (.tmp 128) rfl rfl _ rfl U rfl .first B10 ?_; intro w11 m11 B11))
                          have bel11 := bel10.trans (m11.below bel10.size (fun k hk => by omega))
                          have BK11 := BK10.keep m11 (by omega)
                          have HSE : Hid ((cs.setIfInBounds k (.bool false))[k]? = some (.bool false)) := Array.getElem?_setIfInBounds_self_of_lt (by rw [HBR.out.1]; exact hlt)
                          refine region_go (by kernel_rfl) (fun R hR => ?_)
                          refine AllS.take (i := 0) (v := ?_) (by rw [List.getElem?_toArray]; rfl) (by kernel_rfl) (by kernel_rfl) (by kernel_rfl) (KeepsIf.read (by rfl) ?_) ?_
                          rotate_left
                          · intro W hSw
                            (try dsimp only at hSw)
                            go_simp
                            (try with_reducible rfl)
                          rotate_left
                          (try simp only [Act.put, List.setIfInBounds_toArray, List.set_cons_zero, List.set_cons_succ])
                          refine AllS.take (i := 1) (v := ?_) (by rw [List.getElem?_toArray]; rfl) (by kernel_rfl) (by kernel_rfl) (by kernel_rfl) (KeepsIf.read (by rfl) ?_) ?_
                          rotate_left
                          · intro W hSw
                            (try dsimp only at hSw)
                            go_simp
                            (try with_reducible rfl)
                          rotate_left
                          (try simp only [Act.put, List.setIfInBounds_toArray, List.set_cons_zero, List.set_cons_succ])
                          refine AllS.take (i := 2) (v := ?_) (by rw [List.getElem?_toArray]; rfl) (by kernel_rfl) (by kernel_rfl) (by kernel_rfl) (KeepsIf.read (by rfl) ?_) ?_
                          rotate_left
                          · intro W hSw
                            (try dsimp only at hSw)
                            go_simp
                            (try with_reducible rfl)
                          rotate_left
                          (try simp only [Act.put, List.setIfInBounds_toArray, List.set_cons_zero, List.set_cons_succ])
                          refine AllS.take (i := 3) (v := ?_) (by rw [List.getElem?_toArray]; rfl) (by kernel_rfl) (by kernel_rfl) (by kernel_rfl) (KeepsIf.read (by rfl) ?_) ?_
                          rotate_left
                          · intro W hSw
                            (try dsimp only at hSw)
                            go_simp
                            (try with_reducible rfl)
                          rotate_left
                          (try simp only [Act.put, List.setIfInBounds_toArray, List.set_cons_zero, List.set_cons_succ])
                          refine AllS.take (i := 4) (v := ?_) (by rw [List.getElem?_toArray]; rfl) (by kernel_rfl) (by kernel_rfl) (by kernel_rfl) (KeepsIf.read (by rfl) ?_) ?_
                          rotate_left
                          · intro W hSw
                            (try dsimp only at hSw)
                            have cq := HLD.out W (bel11.trans (hSw.mono bel11.size))
                            go_simp
                            (try with_reducible rfl)
                          rotate_left
                          (try simp only [Act.put, List.setIfInBounds_toArray, List.set_cons_zero, List.set_cons_succ])
                          refine AllS.take (i := 5) (v := .bool false) (by rw [List.getElem?_toArray]; rfl) (by kernel_rfl) (by kernel_rfl) (by kernel_rfl) (KeepsIf.read (by rfl) (fun W hSw => ?_)) ?_
                          · (try dsimp only at hSw)
                            have en := HEN.out; go_simp
                          (try simp only [Act.put, List.setIfInBounds_toArray, List.set_cons_zero, List.set_cons_succ])
                          refine AllS.take (i := 6) (v := ?_) (by rw [List.getElem?_toArray]; rfl) (by kernel_rfl) (by kernel_rfl) (by kernel_rfl) (KeepsIf.read (by rfl) ?_) ?_
                          rotate_left
                          · intro W hSw
                            (try dsimp only at hSw)
                            go_simp
                            (try with_reducible rfl)
                          rotate_left
                          (try simp only [Act.put, List.setIfInBounds_toArray, List.set_cons_zero, List.set_cons_succ])
                          refine AllS.take (i := 7) (v := undef) (by rw [List.getElem?_toArray]; rfl) (by kernel_rfl) (by kernel_rfl) (by kernel_rfl) (KeepsIf.un (by kernel_rfl)) ?_
                          (try simp only [Act.put, List.setIfInBounds_toArray, List.set_cons_zero, List.set_cons_succ])
                          refine AllS.take (i := 8) (v := undef) (by rw [List.getElem?_toArray]; rfl) (by kernel_rfl) (by kernel_rfl) (by kernel_rfl) (KeepsIf.un (by kernel_rfl)) ?_
                          (try simp only [Act.put, List.setIfInBounds_toArray, List.set_cons_zero, List.set_cons_succ])
                          refine AllS.take (i := 9) (v := undef) (by rw [List.getElem?_toArray]; rfl) (by kernel_rfl) (by kernel_rfl) (by kernel_rfl) (KeepsIf.un (by kernel_rfl)) ?_
                          (try simp only [Act.put, List.setIfInBounds_toArray, List.set_cons_zero, List.set_cons_succ])
                          refine AllS.take (i := 10) (v := undef) (by rw [List.getElem?_toArray]; rfl) (by kernel_rfl) (by kernel_rfl) (by kernel_rfl) (KeepsIf.un (by kernel_rfl)) ?_
                          (try simp only [Act.put, List.setIfInBounds_toArray, List.set_cons_zero, List.set_cons_succ])
                          refine AllS.take (i := 11) (v := undef) (by rw [List.getElem?_toArray]; rfl) (by kernel_rfl) (by kernel_rfl) (by kernel_rfl) (KeepsIf.un (by kernel_rfl)) ?_
                          (try simp only [Act.put, List.setIfInBounds_toArray, List.set_cons_zero, List.set_cons_succ])
                          refine AllS.take (i := 12) (v := undef) (by rw [List.getElem?_toArray]; rfl) (by kernel_rfl) (by kernel_rfl) (by kernel_rfl) (KeepsIf.un (by kernel_rfl)) ?_
                          (try simp only [Act.put, List.setIfInBounds_toArray, List.set_cons_zero, List.set_cons_succ])
                          refine AllS.take (i := 13) (v := ?_) (by rw [List.getElem?_toArray]; rfl) (by kernel_rfl) (by kernel_rfl) (by kernel_rfl) (KeepsIf.read (by rfl) ?_) ?_
                          rotate_left
                          · intro W hSw
                            (try dsimp only at hSw)
                            go_simp
                            (try with_reducible rfl)
                          rotate_left
                          (try simp only [Act.put, List.setIfInBounds_toArray, List.set_cons_zero, List.set_cons_succ])
                          refine AllS.take (i := 14) (v := ?_) (by rw [List.getElem?_toArray]; rfl) (by kernel_rfl) (by kernel_rfl) (by kernel_rfl) (KeepsIf.read (by rfl) ?_) ?_
                          rotate_left
                          · intro W hSw
                            (try dsimp only at hSw)
                            go_simp
                            (try with_reducible rfl)
                          rotate_left
                          (try simp only [Act.put, List.setIfInBounds_toArray, List.set_cons_zero, List.set_cons_succ])
                          refine AllS.take (i := 15) (v := ?_) (by rw [List.getElem?_toArray]; rfl) (by kernel_rfl) (by kernel_rfl) (by kernel_rfl) (KeepsIf.read (by rfl) ?_) ?_
                          rotate_left
                          · intro W hSw
                            (try dsimp only at hSw)
                            go_simp
                            (try with_reducible rfl)
                          rotate_left
                          (try simp only [Act.put, List.setIfInBounds_toArray, List.set_cons_zero, List.set_cons_succ])
                          refine AllS.take (i := 16) (v := ?_) (by rw [List.getElem?_toArray]; rfl) (by kernel_rfl) (by kernel_rfl) (by kernel_rfl) (KeepsIf.read (by rfl) ?_) ?_
                          rotate_left
                          · intro W hSw
                            (try dsimp only at hSw)
                            go_simp
                            (try with_reducible rfl)
                          rotate_left
                          (try simp only [Act.put, List.setIfInBounds_toArray, List.set_cons_zero, List.set_cons_succ])
                          refine AllS.take (i := 17) (v := ?_) (by rw [List.getElem?_toArray]; rfl) (by kernel_rfl) (by kernel_rfl) (by kernel_rfl) (KeepsIf.read (by rfl) ?_) ?_
                          rotate_left
                          · intro W hSw
                            (try dsimp only at hSw)
                            go_simp
                            (try with_reducible rfl)
                          rotate_left
                          (try simp only [Act.put, List.setIfInBounds_toArray, List.set_cons_zero, List.set_cons_succ])
                          refine AllS.take (i := 18) (v := ?_) (by rw [List.getElem?_toArray]; rfl) (by kernel_rfl) (by kernel_rfl) (by kernel_rfl) (KeepsIf.read (by rfl) ?_) ?_
                          rotate_left
                          · intro W hSw
                            (try dsimp only at hSw)
                            have cq : W.cell? ⟨w8.heap.size, k, none⟩ = some (.bool false) := ((BK11.keep (S := fun _ => False) (Mod.of_below hSw) id).cell k).trans HSE.out
                            go_simp
                            (try with_reducible rfl)
                          rotate_left
                          (try simp only [Act.put, List.setIfInBounds_toArray, List.set_cons_zero, List.set_cons_succ])
                          refine AllS.take (i := 19) (v := ?_) (by rw [List.getElem?_toArray]; rfl) (by kernel_rfl) (by kernel_rfl) (by kernel_rfl) (KeepsIf.read (by rfl) ?_) ?_
                          rotate_left
                          · intro W hSw
                            (try dsimp only at hSw)
                            go_simp
                            (try with_reducible rfl)
                          rotate_left
                          (try simp only [Act.put, List.setIfInBounds_toArray, List.set_cons_zero, List.set_cons_succ])
                          refine AllS.take (i := 20) (v := ?_) (by rw [List.getElem?_toArray]; rfl) (by kernel_rfl) (by kernel_rfl) (by kernel_rfl) (KeepsIf.read (by rfl) ?_) ?_
                          rotate_left
                          · intro W hSw
                            (try dsimp only at hSw)
                            go_simp
                            (try with_reducible rfl)
                          rotate_left
                          (try simp only [Act.put, List.setIfInBounds_toArray, List.set_cons_zero, List.set_cons_succ])
                          refine AllS.take (i := 21) (v := ?_) (by rw [List.getElem?_toArray]; rfl) (by kernel_rfl) (by kernel_rfl) (by kernel_rfl) (KeepsIf.read (by rfl) ?_) ?_
                          rotate_left
                          · intro W hSw
                            (try dsimp only at hSw)
                            go_simp
                            (try with_reducible rfl)
                          rotate_left
                          (try simp only [Act.put, List.setIfInBounds_toArray, List.set_cons_zero, List.set_cons_succ])
                          refine AllS.take (i := 22) (v := ?_) (by rw [List.getElem?_toArray]; rfl) (by kernel_rfl) (by kernel_rfl) (by kernel_rfl) (KeepsIf.read (by rfl) ?_) ?_
                          rotate_left
                          · intro W hSw
                            (try dsimp only at hSw)
                            go_simp
                            (try with_reducible rfl)
                          rotate_left
                          (try simp only [Act.put, List.setIfInBounds_toArray, List.set_cons_zero, List.set_cons_succ])
                          refine AllS.take (i := 23) (v := ?_) (by rw [List.getElem?_toArray]; rfl) (by kernel_rfl) (by kernel_rfl) (by kernel_rfl) (KeepsIf.read (by rfl) ?_) ?_
                          rotate_left
                          · intro W hSw
                            (try dsimp only at hSw)
                            go_simp
                            (try with_reducible rfl)
                          rotate_left
                          (try simp only [Act.put, List.setIfInBounds_toArray, List.set_cons_zero, List.set_cons_succ])
                          refine AllS.take (i := 24) (v := .agg u.cells) (by rw [List.getElem?_toArray]; rfl) (by kernel_rfl) (by kernel_rfl) (by kernel_rfl) (KeepsIf.read (by rfl) (fun W hSw => ?_)) ?_
                          · (try dsimp only at hSw)
                            exact rdS (.tmp 152) rfl _ rfl _ (ha2 ▸ HLU.out W (bel11.trans (hSw.mono bel11.size)))
                          (try simp only [Act.put, List.setIfInBounds_toArray, List.set_cons_zero, List.set_cons_succ])
                          refine AllS.take (i := 25) (v := ?_) (by rw [List.getElem?_toArray]; rfl) (by kernel_rfl) (by kernel_rfl) (by kernel_rfl) (KeepsIf.read (by rfl) ?_) ?_
                          rotate_left
                          · intro W hSw
                            (try dsimp only at hSw)
                            go_simp
                            (try with_reducible rfl)
                          rotate_left
                          (try simp only [Act.put, List.setIfInBounds_toArray, List.set_cons_zero, List.set_cons_succ])
                          refine AllS.take (i := 26) (v := ?_) (by rw [List.getElem?_toArray]; rfl) (by kernel_rfl) (by kernel_rfl) (by kernel_rfl) (KeepsIf.read (by rfl) ?_) ?_
                          rotate_left
                          · intro W hSw
                            (try dsimp only at hSw)
                            go_simp
                            (try with_reducible rfl)
                          rotate_left
                          (try simp only [Act.put, List.setIfInBounds_toArray, List.set_cons_zero, List.set_cons_succ])
                          refine AllS.take (i := 27) (v := ?_) (by rw [List.getElem?_toArray]; rfl) (by kernel_rfl) (by kernel_rfl) (by kernel_rfl) (KeepsIf.read (by rfl) ?_) ?_
                          rotate_left
                          · intro W hSw
                            (try dsimp only at hSw)
                            go_simp
                            (try with_reducible rfl)
                          rotate_left
                          (try simp only [Act.put, List.setIfInBounds_toArray, List.set_cons_zero, List.set_cons_succ])
                          refine AllS.take (i := 28) (v := .agg u.cells) (by rw [List.getElem?_toArray]; rfl) (by kernel_rfl) (by kernel_rfl) (by kernel_rfl) (KeepsIf.read (by rfl) (fun W hSw => ?_)) ?_
                          · (try dsimp only at hSw)
                            exact rdS (.tmp 156) rfl _ rfl _ (ha3 ▸ HLS.out W (bel11.trans (hSw.mono bel11.size)))
                          (try simp only [Act.put, List.setIfInBounds_toArray, List.set_cons_zero, List.set_cons_succ])
                          refine AllS.take (i := 29) (v := .bool false) (by rw [List.getElem?_toArray]; rfl) (by kernel_rfl) (by kernel_rfl) (by kernel_rfl) (KeepsIf.read (by rfl) (fun W hSw => ?_)) ?_
                          · (try dsimp only at hSw)
                            have hne := HN1.out; go_simp
                          (try simp only [Act.put, List.setIfInBounds_toArray, List.set_cons_zero, List.set_cons_succ])
                          refine AllS.take (i := 30) (v := ?_) (by rw [List.getElem?_toArray]; rfl) (by kernel_rfl) (by kernel_rfl) (by kernel_rfl) (KeepsIf.read (by rfl) ?_) ?_
                          rotate_left
                          · intro W hSw
                            (try dsimp only at hSw)
                            go_simp
                            (try with_reducible rfl)
                          rotate_left
                          (try simp only [Act.put, List.setIfInBounds_toArray, List.set_cons_zero, List.set_cons_succ])
                          refine AllS.take (i := 31) (v := ?_) (by rw [List.getElem?_toArray]; rfl) (by kernel_rfl) (by kernel_rfl) (by kernel_rfl) (KeepsIf.read (by rfl) ?_) ?_
                          rotate_left
                          · intro W hSw
                            (try dsimp only at hSw)
                            go_simp
                            (try with_reducible rfl)
                          rotate_left
                          (try simp only [Act.put, List.setIfInBounds_toArray, List.set_cons_zero, List.set_cons_succ])
                          refine AllS.done (by kernel_rfl) (hR.out _ ?_) _
                          clear hR R
                          intro w12 b12
                          go_wp2_with fail
                          go_roundg (m - (k + 1))
                          case measure => omega
                          case rel => exact ⟨k + 1, by go_num, by omega, rfl, bel11.trans (b12.mono bel11.size), _, BK11.keep (S := fun _ => False) (Mod.of_below b12) id, HBR.out.step hlt (fun _ => by first | exact HUV.out rfl | exact HUV.out trivial)⟩
                  · obtain rfl : p = -1 := by omega
                    have upA : Hid (upV .first LA (-1) = .first) := by show _ = _; unfold upV; rw [if_neg (by omega)]
                    have upB : Hid (upV .first LB (-1) = .first) := by show _ = _; unfold upV; rw [if_neg (by omega)]
                    by_cases hkq : k = q
                    · subst hkq
                      by_cases hn0 : dk.n = 0
                      · have HEN : Hid (((dk.n : Int) == 0) = true ∧ dk.n = 0) := ⟨by rw [hn0]; rfl, hn0⟩
                        have hUu : u = Sty.first := by
                          have h2 := eA'.out
                          rw [upA.out, over_n0 _ _ hn0] at h2
                          exact h2
                        subst hUu
                        have HN1 := Lib.hid (fun w => neS Sty.first Sty.first w true (decide_eq_true rfl))
                        simp only [Bool.not_true] at HN1
                        go_wp2_with fail
                        refine (CF.out _).mono ?_
                        rintro e w9 ⟨rfl, b9⟩
                        have bel9 := (bel.setCell (p := ⟨w8.heap.size, k, none⟩) (Nat.le_refl _) (.bool true)).trans (b9.mono ((bel.setCell (p := ⟨w8.heap.size, k, none⟩) (Nat.le_refl _) (.bool true)).size))
                        have BK9 := (HBB.out.set_ k (.bool true)).keep (S := fun _ => False) (Mod.of_below b9) id
                        clear ck fk cz cp b9
                        go_wp2_with (refine nwS rfl rfl 14 rfl rfl (.tmp 116) rfl rfl .first (fun _ => rfl) (fun _ => rfl) ?_; intro w10 b10 B10; have bel10 := bel9.trans (b10.mono bel9.size); have cp10 := HC.out w10 bel10; have BK10 := BK9.keep (S := fun _ => False) (Mod.of_below b10) id; have hl9 : w8.heap.size < w9.heap.size := BK9.lt)
                        obtain ⟨w11, hw11⟩ : ∃ x : World, w10 = x := ⟨_, rfl⟩
                        subst hw11
                        have bel11 := bel10
                        have BK11 := BK10
                        have B11 := B10
                        have HSE : Hid ((cs.setIfInBounds k (.bool true))[k]? = some (.bool true)) := Array.getElem?_setIfInBounds_self_of_lt (by rw [HBR.out.1]; exact hlt)
                        refine region_go (by kernel_rfl) (fun R hR => ?_)
                        refine AllS.take (i := 0) (v := ?_) (by rw [List.getElem?_toArray]; rfl) (by kernel_rfl) (by kernel_rfl) (by kernel_rfl) (KeepsIf.read (by rfl) ?_) ?_
                        rotate_left
                        · intro W hSw
                          (try dsimp only at hSw)
                          go_simp
                          (try with_reducible rfl)
                        rotate_left
                        (try simp only [Act.put, List.setIfInBounds_toArray, List.set_cons_zero, List.set_cons_succ])
                        refine AllS.take (i := 1) (v := ?_) (by rw [List.getElem?_toArray]; rfl) (by kernel_rfl) (by kernel_rfl) (by kernel_rfl) (KeepsIf.read (by rfl) ?_) ?_
                        rotate_left
                        · intro W hSw
                          (try dsimp only at hSw)
                          go_simp
                          (try with_reducible rfl)
                        rotate_left
                        (try simp only [Act.put, List.setIfInBounds_toArray, List.set_cons_zero, List.set_cons_succ])
                        refine AllS.take (i := 2) (v := ?_) (by rw [List.getElem?_toArray]; rfl) (by kernel_rfl) (by kernel_rfl) (by kernel_rfl) (KeepsIf.read (by rfl) ?_) ?_
                        rotate_left
                        · intro W hSw
                          (try dsimp only at hSw)
                          go_simp
                          (try with_reducible rfl)
                        rotate_left
                        (try simp only [Act.put, List.setIfInBounds_toArray, List.set_cons_zero, List.set_cons_succ])
                        refine AllS.take (i := 3) (v := ?_) (by rw [List.getElem?_toArray]; rfl) (by kernel_rfl) (by kernel_rfl) (by kernel_rfl) (KeepsIf.read (by rfl) ?_) ?_
                        rotate_left
                        · intro W hSw
                          (try dsimp only at hSw)
                          go_simp
                          (try with_reducible rfl)
                        rotate_left
                        (try simp only [Act.put, List.setIfInBounds_toArray, List.set_cons_zero, List.set_cons_succ])
                        refine AllS.take (i := 4) (v := ?_) (by rw [List.getElem?_toArray]; rfl) (by kernel_rfl) (by kernel_rfl) (by kernel_rfl) (KeepsIf.read (by rfl) ?_) ?_
                        rotate_left
                        · intro W hSw
                          (try dsimp only at hSw)
                          have cq := HLD.out W (bel11.trans (hSw.mono bel11.size))
                          go_simp
                          (try with_reducible rfl)
                        rotate_left
                        (try simp only [Act.put, List.setIfInBounds_toArray, List.set_cons_zero, List.set_cons_succ])
                        refine AllS.take (i := 5) (v := .bool true) (by rw [List.getElem?_toArray]; rfl) (by kernel_rfl) (by kernel_rfl) (by kernel_rfl) (KeepsIf.read (by rfl) (fun W hSw => ?_)) ?_
                        · (try dsimp only at hSw)
                          have en := HEN.out; go_simp
                        (try simp only [Act.put, List.setIfInBounds_toArray, List.set_cons_zero, List.set_cons_succ])
                        refine AllS.take (i := 6) (v := ?_) (by rw [List.getElem?_toArray]; rfl) (by kernel_rfl) (by kernel_rfl) (by kernel_rfl) (KeepsIf.read (by rfl) ?_) ?_
                        rotate_left
                        · intro W hSw
                          (try dsimp only at hSw)
                          go_simp
                          (try with_reducible rfl)
                        rotate_left
                        (try simp only [Act.put, List.setIfInBounds_toArray, List.set_cons_zero, List.set_cons_succ])
                        refine AllS.take (i := 7) (v := ?_) (by rw [List.getElem?_toArray]; rfl) (by kernel_rfl) (by kernel_rfl) (by kernel_rfl) (KeepsIf.read (by rfl) ?_) ?_
                        rotate_left
                        · intro W hSw
                          (try dsimp only at hSw)
                          go_simp
                          (try with_reducible rfl)
                        rotate_left
                        (try simp only [Act.put, List.setIfInBounds_toArray, List.set_cons_zero, List.set_cons_succ])
                        refine AllS.take (i := 8) (v := ?_) (by rw [List.getElem?_toArray]; rfl) (by kernel_rfl) (by kernel_rfl) (by kernel_rfl) (KeepsIf.read (by rfl) ?_) ?_
                        rotate_left
                        · intro W hSw
                          (try dsimp only at hSw)
                          go_simp
                          (try with_reducible rfl)
                        rotate_left
                        (try simp only [Act.put, List.setIfInBounds_toArray, List.set_cons_zero, List.set_cons_succ])
                        refine AllS.take (i := 9) (v := ?_) (by rw [List.getElem?_toArray]; rfl) (by kernel_rfl) (by kernel_rfl) (by kernel_rfl) (KeepsIf.read (by rfl) ?_) ?_
                        rotate_left
                        · intro W hSw
                          (try dsimp only at hSw)
                          go_simp
                          (try with_reducible rfl)
                        rotate_left
                        (try simp only [Act.put, List.setIfInBounds_toArray, List.set_cons_zero, List.set_cons_succ])
                        refine AllS.take (i := 10) (v := .agg Sty.first.cells) (by rw [List.getElem?_toArray]; rfl) (by kernel_rfl) (by kernel_rfl) (by kernel_rfl) (KeepsIf.read (by rfl) (fun W hSw => ?_)) ?_
                        · (try dsimp only at hSw)
                          exact rdS (.tmp 138) rfl _ rfl _ (ha2 ▸ HLU.out W (bel11.trans (hSw.mono bel11.size)))
                        (try simp only [Act.put, List.setIfInBounds_toArray, List.set_cons_zero, List.set_cons_succ])
                        refine AllS.take (i := 11) (v := .agg Sty.first.cells) (by rw [List.getElem?_toArray]; rfl) (by kernel_rfl) (by kernel_rfl) (by kernel_rfl) (KeepsIf.read (by rfl) (fun W hSw => ?_)) ?_
                        · (try dsimp only at hSw)
                          exact rdS (.tmp 14) rfl _ rfl _ (B11.keep (S := fun _ => False) (Mod.of_below hSw) id).lies
                        (try simp only [Act.put, List.setIfInBounds_toArray, List.set_cons_zero, List.set_cons_succ])
                        refine AllS.take (i := 12) (v := .bool false) (by rw [List.getElem?_toArray]; rfl) (by kernel_rfl) (by kernel_rfl) (by kernel_rfl) (KeepsIf.read (by rfl) (fun W hSw => ?_)) ?_
                        · (try dsimp only at hSw)
                          have hne := HN1.out; go_simp
                        (try simp only [Act.put, List.setIfInBounds_toArray, List.set_cons_zero, List.set_cons_succ])
                        refine AllS.take (i := 13) (v := ?_) (by rw [List.getElem?_toArray]; rfl) (by kernel_rfl) (by kernel_rfl) (by kernel_rfl) (KeepsIf.read (by rfl) ?_) ?_
                        rotate_left
                        · intro W hSw
                          (try dsimp only at hSw)
                          go_simp
                          (try with_reducible rfl)
                        rotate_left
                        (try simp only [Act.put, List.setIfInBounds_toArray, List.set_cons_zero, List.set_cons_succ])
                        refine AllS.take (i := 14) (v := ?_) (by rw [List.getElem?_toArray]; rfl) (by kernel_rfl) (by kernel_rfl) (by kernel_rfl) (KeepsIf.read (by rfl) ?_) ?_
                        rotate_left
                        · intro W hSw
                          (try dsimp only at hSw)
                          go_simp
                          (try with_reducible rfl)
                        rotate_left
                        (try simp only [Act.put, List.setIfInBounds_toArray, List.set_cons_zero, List.set_cons_succ])
                        refine AllS.take (i := 15) (v := ?_) (by rw [List.getElem?_toArray]; rfl) (by kernel_rfl) (by kernel_rfl) (by kernel_rfl) (KeepsIf.read (by rfl) ?_) ?_
                        rotate_left
                        · intro W hSw
                          (try dsimp only at hSw)
                          go_simp
                          (try with_reducible rfl)
                        rotate_left
                        (try simp only [Act.put, List.setIfInBounds_toArray, List.set_cons_zero, List.set_cons_succ])
                        refine AllS.take (i := 16) (v := ?_) (by rw [List.getElem?_toArray]; rfl) (by kernel_rfl) (by kernel_rfl) (by kernel_rfl) (KeepsIf.read (by rfl) ?_) ?_
                        rotate_left
                        · intro W hSw
                          (try dsimp only at hSw)
                          go_simp
                          (try with_reducible rfl)
                        rotate_left
                        (try simp only [Act.put, List.setIfInBounds_toArray, List.set_cons_zero, List.set_cons_succ])
                        refine AllS.take (i := 17) (v := ?_) (by rw [List.getElem?_toArray]; rfl) (by kernel_rfl) (by kernel_rfl) (by kernel_rfl) (KeepsIf.read (by rfl) ?_) ?_
                        rotate_left
                        · intro W hSw
                          (try dsimp only at hSw)
                          go_simp
                          (try with_reducible rfl)
                        rotate_left
                        (try simp only [Act.put, List.setIfInBounds_toArray, List.set_cons_zero, List.set_cons_succ])
                        refine AllS.take (i := 18) (v := ?_) (by rw [List.getElem?_toArray]; rfl) (by kernel_rfl) (by kernel_rfl) (by kernel_rfl) (KeepsIf.read (by rfl) ?_) ?_
                        rotate_left
                        · intro W hSw
                          (try dsimp only at hSw)
                          have cq : W.cell? ⟨w8.heap.size, k, none⟩ = some (.bool true) := ((BK11.keep (S := fun _ => False) (Mod.of_below hSw) id).cell k).trans HSE.out
                          go_simp
                          (try with_reducible rfl)
                        rotate_left
                        (try simp only [Act.put, List.setIfInBounds_toArray, List.set_cons_zero, List.set_cons_succ])
                        refine AllS.take (i := 19) (v := ?_) (by rw [List.getElem?_toArray]; rfl) (by kernel_rfl) (by kernel_rfl) (by kernel_rfl) (KeepsIf.read (by rfl) ?_) ?_
                        rotate_left
                        · intro W hSw
                          (try dsimp only at hSw)
                          go_simp
                          (try with_reducible rfl)
                        rotate_left
                        (try simp only [Act.put, List.setIfInBounds_toArray, List.set_cons_zero, List.set_cons_succ])
                        refine AllS.take (i := 20) (v := ?_) (by rw [List.getElem?_toArray]; rfl) (by kernel_rfl) (by kernel_rfl) (by kernel_rfl) (KeepsIf.read (by rfl) ?_) ?_
                        rotate_left
                        · intro W hSw
                          (try dsimp only at hSw)
                          go_simp
                          (try with_reducible rfl)
                        rotate_left
                        (try simp only [Act.put, List.setIfInBounds_toArray, List.set_cons_zero, List.set_cons_succ])
                        refine AllS.take (i := 21) (v := undef) (by rw [List.getElem?_toArray]; rfl) (by kernel_rfl) (by kernel_rfl) (by kernel_rfl) (KeepsIf.un (by kernel_rfl)) ?_
                        (try simp only [Act.put, List.setIfInBounds_toArray, List.set_cons_zero, List.set_cons_succ])
                        refine AllS.take (i := 22) (v := undef) (by rw [List.getElem?_toArray]; rfl) (by kernel_rfl) (by kernel_rfl) (by kernel_rfl) (KeepsIf.un (by kernel_rfl)) ?_
                        (try simp only [Act.put, List.setIfInBounds_toArray, List.set_cons_zero, List.set_cons_succ])
                        refine AllS.take (i := 23) (v := undef) (by rw [List.getElem?_toArray]; rfl) (by kernel_rfl) (by kernel_rfl) (by kernel_rfl) (KeepsIf.un (by kernel_rfl)) ?_
                        (try simp only [Act.put, List.setIfInBounds_toArray, List.set_cons_zero, List.set_cons_succ])
                        refine AllS.take (i := 24) (v := undef) (by rw [List.getElem?_toArray]; rfl) (by kernel_rfl) (by kernel_rfl) (by kernel_rfl) (KeepsIf.un (by kernel_rfl)) ?_
                        (try simp only [Act.put, List.setIfInBounds_toArray, List.set_cons_zero, List.set_cons_succ])
                        refine AllS.take (i := 25) (v := undef) (by rw [List.getElem?_toArray]; rfl) (by kernel_rfl) (by kernel_rfl) (by kernel_rfl) (KeepsIf.un (by kernel_rfl)) ?_
                        (try simp only [Act.put, List.setIfInBounds_toArray, List.set_cons_zero, List.set_cons_succ])
                        refine AllS.take (i := 26) (v := undef) (by rw [List.getElem?_toArray]; rfl) (by kernel_rfl) (by kernel_rfl) (by kernel_rfl) (KeepsIf.un (by kernel_rfl)) ?_
                        (try simp only [Act.put, List.setIfInBounds_toArray, List.set_cons_zero, List.set_cons_succ])
                        refine AllS.take (i := 27) (v := undef) (by rw [List.getElem?_toArray]; rfl) (by kernel_rfl) (by kernel_rfl) (by kernel_rfl) (KeepsIf.un (by kernel_rfl)) ?_
                        (try simp only [Act.put, List.setIfInBounds_toArray, List.set_cons_zero, List.set_cons_succ])
                        refine AllS.take (i := 28) (v := undef) (by rw [List.getElem?_toArray]; rfl) (by kernel_rfl) (by kernel_rfl) (by kernel_rfl) (KeepsIf.un (by kernel_rfl)) ?_
                        (try simp only [Act.put, List.setIfInBounds_toArray, List.set_cons_zero, List.set_cons_succ])
                        refine AllS.take (i := 29) (v := undef) (by rw [List.getElem?_toArray]; rfl) (by kernel_rfl) (by kernel_rfl) (by kernel_rfl) (KeepsIf.un (by kernel_rfl)) ?_
                        (try simp only [Act.put, List.setIfInBounds_toArray, List.set_cons_zero, List.set_cons_succ])
                        refine AllS.take (i := 30) (v := ?_) (by rw [List.getElem?_toArray]; rfl) (by kernel_rfl) (by kernel_rfl) (by kernel_rfl) (KeepsIf.read (by rfl) ?_) ?_
                        rotate_left
                        · intro W hSw
                          (try dsimp only at hSw)
                          go_simp
                          (try with_reducible rfl)
                        rotate_left
                        (try simp only [Act.put, List.setIfInBounds_toArray, List.set_cons_zero, List.set_cons_succ])
                        refine AllS.take (i := 31) (v := ?_) (by rw [List.getElem?_toArray]; rfl) (by kernel_rfl) (by kernel_rfl) (by kernel_rfl) (KeepsIf.read (by rfl) ?_) ?_
                        rotate_left
                        · intro W hSw
                          (try dsimp only at hSw)
                          go_simp
                          (try with_reducible rfl)
                        rotate_left
                        (try simp only [Act.put, List.setIfInBounds_toArray, List.set_cons_zero, List.set_cons_succ])
                        refine AllS.done (by kernel_rfl) (hR.out _ ?_) _
                        clear hR R
                        intro w12 b12
                        go_wp2_with fail
                        go_roundg (m - (k + 1))
                        case measure => omega
                        case rel => exact ⟨k + 1, by go_num, by omega, rfl, bel11.trans (b12.mono bel11.size), _, BK11.keep (S := fun _ => False) (Mod.of_below b12) id, HBR.out.step hlt (fun h => by cases h)⟩
                      · have HEN : Hid (((dk.n : Int) == 0) = false ∧ ¬ dk.n = 0) := ⟨by simp; omega, hn0⟩
                        have HN1 := Lib.hid (fun w => neS u u w true (decide_eq_true rfl))
                        simp only [Bool.not_true] at HN1
                        go_wp2_with fail
                        refine (CF.out _).mono ?_
                        rintro e w9 ⟨rfl, b9⟩
                        have bel9 := (bel.setCell (p := ⟨w8.heap.size, k, none⟩) (Nat.le_refl _) (.bool true)).trans (b9.mono ((bel.setCell (p := ⟨w8.heap.size, k, none⟩) (Nat.le_refl _) (.bool true)).size))
                        have BK9 := (HBB.out.set_ k (.bool true)).keep (S := fun _ => False) (Mod.of_below b9) id
                        clear ck fk cz cp b9
                        go_wp2_with (refine nwS rfl rfl 14 rfl rfl (.tmp 116) rfl rfl .first (fun _ => rfl) (fun _ => rfl) ?_; intro w10 b10 B10; have bel10 := bel9.trans (b10.mono bel9.size); have cp10 := HC.out w10 bel10; have BK10 := BK9.keep (S := fun _ => False) (Mod.of_below b10) id; have hl9 : w8.heap.size < w9.heap.size := BK9.lt)
                        obtain ⟨w11, hw11⟩ : ∃ x : World, w10 = x := ⟨_, rfl⟩
                        subst hw11
                        have bel11 := bel10
                        have BK11 := BK10
                        have B11 := B10
                        have HSE : Hid ((cs.setIfInBounds k (.bool true))[k]? = some (.bool true)) := Array.getElem?_setIfInBounds_self_of_lt (by rw [HBR.out.1]; exact hlt)
                        refine region_go (by kernel_rfl) (fun R hR => ?_)
                        refine AllS.take (i := 0) (v := ?_) (by rw [List.getElem?_toArray]; rfl) (by kernel_rfl) (by kernel_rfl) (by kernel_rfl) (KeepsIf.read (by rfl) ?_) ?_
                        rotate_left
                        · intro W hSw
                          (try dsimp only at hSw)
                          go_simp
                          (try with_reducible rfl)
                        rotate_left
                        (try simp only [Act.put, List.setIfInBounds_toArray, List.set_cons_zero, List.set_cons_succ])
                        refine AllS.take (i := 1) (v := ?_) (by rw [List.getElem?_toArray]; rfl) (by kernel_rfl) (by kernel_rfl) (by kernel_rfl) (KeepsIf.read (by rfl) ?_) ?_
                        rotate_left
                        · intro W hSw
                          (try dsimp only at hSw)
                          go_simp
                          (try with_reducible rfl)
                        rotate_left
                        (try simp only [Act.put, List.setIfInBounds_toArray, List.set_cons_zero, List.set_cons_succ])
                        refine AllS.take (i := 2) (v := ?_) (by rw [List.getElem?_toArray]; rfl) (by kernel_rfl) (by kernel_rfl) (by kernel_rfl) (KeepsIf.read (by rfl) ?_) ?_
                        rotate_left
                        · intro W hSw
                          (try dsimp only at hSw)
                          go_simp
                          (try with_reducible rfl)
                        rotate_left
                        (try simp only [Act.put, List.setIfInBounds_toArray, List.set_cons_zero, List.set_cons_succ])
                        refine AllS.take (i := 3) (v := ?_) (by rw [List.getElem?_toArray]; rfl) (by kernel_rfl) (by kernel_rfl) (by kernel_rfl) (KeepsIf.read (by rfl) ?_) ?_
                        rotate_left
                        · intro W hSw
                          (try dsimp only at hSw)
                          go_simp
                          (try with_reducible rfl)
                        rotate_left
                        (try simp only [Act.put, List.setIfInBounds_toArray, List.set_cons_zero, List.set_cons_succ])
                        refine AllS.take (i := 4) (v := ?_) (by rw [List.getElem?_toArray]; rfl) (by kernel_rfl) (by kernel_rfl) (by kernel_rfl) (KeepsIf.read (by rfl) ?_) ?_
                        rotate_left
                        · intro W hSw
                          (try dsimp only at hSw)
                          have cq := HLD.out W (bel11.trans (hSw.mono bel11.size))
                          go_simp
                          (try with_reducible rfl)
                        rotate_left
                        (try simp only [Act.put, List.setIfInBounds_toArray, List.set_cons_zero, List.set_cons_succ])
                        refine AllS.take (i := 5) (v := .bool false) (by rw [List.getElem?_toArray]; rfl) (by kernel_rfl) (by kernel_rfl) (by kernel_rfl) (KeepsIf.read (by rfl) (fun W hSw => ?_)) ?_
                        · (try dsimp only at hSw)
                          have en := HEN.out; go_simp
                        (try simp only [Act.put, List.setIfInBounds_toArray, List.set_cons_zero, List.set_cons_succ])
                        refine AllS.take (i := 6) (v := ?_) (by rw [List.getElem?_toArray]; rfl) (by kernel_rfl) (by kernel_rfl) (by kernel_rfl) (KeepsIf.read (by rfl) ?_) ?_
                        rotate_left
                        · intro W hSw
                          (try dsimp only at hSw)
                          go_simp
                          (try with_reducible rfl)
                        rotate_left
                        (try simp only [Act.put, List.setIfInBounds_toArray, List.set_cons_zero, List.set_cons_succ])
                        refine AllS.take (i := 7) (v := undef) (by rw [List.getElem?_toArray]; rfl) (by kernel_rfl) (by kernel_rfl) (by kernel_rfl) (KeepsIf.un (by kernel_rfl)) ?_
                        (try simp only [Act.put, List.setIfInBounds_toArray, List.set_cons_zero, List.set_cons_succ])
                        refine AllS.take (i := 8) (v := undef) (by rw [List.getElem?_toArray]; rfl) (by kernel_rfl) (by kernel_rfl) (by kernel_rfl) (KeepsIf.un (by kernel_rfl)) ?_
                        (try simp only [Act.put, List.setIfInBounds_toArray, List.set_cons_zero, List.set_cons_succ])
                        refine AllS.take (i := 9) (v := undef) (by rw [List.getElem?_toArray]; rfl) (by kernel_rfl) (by kernel_rfl) (by kernel_rfl) (KeepsIf.un (by kernel_rfl)) ?_
                        (try simp only [Act.put, List.setIfInBounds_toArray, List.set_cons_zero, List.set_cons_succ])
                        refine AllS.take (i := 10) (v := undef) (by rw [List.getElem?_toArray]; rfl) (by kernel_rfl) (by kernel_rfl) (by kernel_rfl) (KeepsIf.un (by kernel_rfl)) ?_
                        (try simp only [Act.put, List.setIfInBounds_toArray, List.set_cons_zero, List.set_cons_succ])
                        refine AllS.take (i := 11) (v := undef) (by rw [List.getElem?_toArray]; rfl) (by kernel_rfl) (by kernel_rfl) (by kernel_rfl) (KeepsIf.un (by kernel_rfl)) ?_
                        (try simp only [Act.put, List.setIfInBounds_toArray, List.set_cons_zero, List.set_cons_succ])
                        refine AllS.take (i := 12) (v := undef) (by rw [List.getElem?_toArray]; rfl) (by kernel_rfl) (by kernel_rfl) (by kernel_rfl) (KeepsIf.un (by kernel_rfl)) ?_
                        (try simp only [Act.put, List.setIfInBounds_toArray, List.set_cons_zero, List.set_cons_succ])
                        refine AllS.take (i := 13) (v := ?_) (by rw [List.getElem?_toArray]; rfl) (by kernel_rfl) (by kernel_rfl) (by kernel_rfl) (KeepsIf.read (by rfl) ?_) ?_
                        rotate_left
                        · intro W hSw
                          (try dsimp only at hSw)
                          go_simp
                          (try with_reducible rfl)
                        rotate_left
                        (try simp only [Act.put, List.setIfInBounds_toArray, List.set_cons_zero, List.set_cons_succ])
                        refine AllS.take (i := 14) (v := ?_) (by rw [List.getElem?_toArray]; rfl) (by kernel_rfl) (by kernel_rfl) (by kernel_rfl) (KeepsIf.read (by rfl) ?_) ?_
                        rotate_left
                        · intro W hSw
                          (try dsimp only at hSw)
                          go_simp
                          (try with_reducible rfl)
                        rotate_left
                        (try simp only [Act.put, List.setIfInBounds_toArray, List.set_cons_zero, List.set_cons_succ])
                        refine AllS.take (i := 15) (v := ?_) (by rw [List.getElem?_toArray]; rfl) (by kernel_rfl) (by kernel_rfl) (by kernel_rfl) (KeepsIf.read (by rfl) ?_) ?_
                        rotate_left
                        · intro W hSw
                          (try dsimp only at hSw)
                          go_simp
                          (try with_reducible rfl)
                        rotate_left
                        (try simp only [Act.put, List.setIfInBounds_toArray, List.set_cons_zero, List.set_cons_succ])
                        refine AllS.take (i := 16) (v := ?_) (by rw [List.getElem?_toArray]; rfl) (by kernel_rfl) (by kernel_rfl) (by kernel_rfl) (KeepsIf.read (by rfl) ?_) ?_
                        rotate_left
                        · intro W hSw
                          (try dsimp only at hSw)
                          go_simp
                          (try with_reducible rfl)
                        rotate_left
                        (try simp only [Act.put, List.setIfInBounds_toArray, List.set_cons_zero, List.set_cons_succ])
                        refine AllS.take (i := 17) (v := ?_) (by rw [List.getElem?_toArray]; rfl) (by kernel_rfl) (by kernel_rfl) (by kernel_rfl) (KeepsIf.read (by rfl) ?_) ?_
                        rotate_left
                        · intro W hSw
                          (try dsimp only at hSw)
                          go_simp
                          (try with_reducible rfl)
                        rotate_left
                        (try simp only [Act.put, List.setIfInBounds_toArray, List.set_cons_zero, List.set_cons_succ])
                        refine AllS.take (i := 18) (v := ?_) (by rw [List.getElem?_toArray]; rfl) (by kernel_rfl) (by kernel_rfl) (by kernel_rfl) (KeepsIf.read (by rfl) ?_) ?_
                        rotate_left
                        · intro W hSw
                          (try dsimp only at hSw)
                          have cq : W.cell? ⟨w8.heap.size, k, none⟩ = some (.bool true) := ((BK11.keep (S := fun _ => False) (Mod.of_below hSw) id).cell k).trans HSE.out
                          go_simp
                          (try with_reducible rfl)
                        rotate_left
                        (try simp only [Act.put, List.setIfInBounds_toArray, List.set_cons_zero, List.set_cons_succ])
                        refine AllS.take (i := 19) (v := ?_) (by rw [List.getElem?_toArray]; rfl) (by kernel_rfl) (by kernel_rfl) (by kernel_rfl) (KeepsIf.read (by rfl) ?_) ?_
                        rotate_left
                        · intro W hSw
                          (try dsimp only at hSw)
                          go_simp
                          (try with_reducible rfl)
                        rotate_left
                        (try simp only [Act.put, List.setIfInBounds_toArray, List.set_cons_zero, List.set_cons_succ])
                        refine AllS.take (i := 20) (v := ?_) (by rw [List.getElem?_toArray]; rfl) (by kernel_rfl) (by kernel_rfl) (by kernel_rfl) (KeepsIf.read (by rfl) ?_) ?_
                        rotate_left
                        · intro W hSw
                          (try dsimp only at hSw)
                          go_simp
                          (try with_reducible rfl)
                        rotate_left
                        (try simp only [Act.put, List.setIfInBounds_toArray, List.set_cons_zero, List.set_cons_succ])
                        refine AllS.take (i := 21) (v := undef) (by rw [List.getElem?_toArray]; rfl) (by kernel_rfl) (by kernel_rfl) (by kernel_rfl) (KeepsIf.un (by kernel_rfl)) ?_
                        (try simp only [Act.put, List.setIfInBounds_toArray, List.set_cons_zero, List.set_cons_succ])
                        refine AllS.take (i := 22) (v := undef) (by rw [List.getElem?_toArray]; rfl) (by kernel_rfl) (by kernel_rfl) (by kernel_rfl) (KeepsIf.un (by kernel_rfl)) ?_
                        (try simp only [Act.put, List.setIfInBounds_toArray, List.set_cons_zero, List.set_cons_succ])
                        refine AllS.take (i := 23) (v := undef) (by rw [List.getElem?_toArray]; rfl) (by kernel_rfl) (by kernel_rfl) (by kernel_rfl) (KeepsIf.un (by kernel_rfl)) ?_
                        (try simp only [Act.put, List.setIfInBounds_toArray, List.set_cons_zero, List.set_cons_succ])
                        refine AllS.take (i := 24) (v := undef) (by rw [List.getElem?_toArray]; rfl) (by kernel_rfl) (by kernel_rfl) (by kernel_rfl) (KeepsIf.un (by kernel_rfl)) ?_
                        (try simp only [Act.put, List.setIfInBounds_toArray, List.set_cons_zero, List.set_cons_succ])
                        refine AllS.take (i := 25) (v := undef) (by rw [List.getElem?_toArray]; rfl) (by kernel_rfl) (by kernel_rfl) (by kernel_rfl) (KeepsIf.un (by kernel_rfl)) ?_
                        (try simp only [Act.put, List.setIfInBounds_toArray, List.set_cons_zero, List.set_cons_succ])
                        refine AllS.take (i := 26) (v := undef) (by rw [List.getElem?_toArray]; rfl) (by kernel_rfl) (by kernel_rfl) (by kernel_rfl) (KeepsIf.un (by kernel_rfl)) ?_
                        (try simp only [Act.put, List.setIfInBounds_toArray, List.set_cons_zero, List.set_cons_succ])
                        refine AllS.take (i := 27) (v := undef) (by rw [List.getElem?_toArray]; rfl) (by kernel_rfl) (by kernel_rfl) (by kernel_rfl) (KeepsIf.un (by kernel_rfl)) ?_
                        (try simp only [Act.put, List.setIfInBounds_toArray, List.set_cons_zero, List.set_cons_succ])
                        refine AllS.take (i := 28) (v := undef) (by rw [List.getElem?_toArray]; rfl) (by kernel_rfl) (by kernel_rfl) (by kernel_rfl) (KeepsIf.un (by kernel_rfl)) ?_
                        (try simp only [Act.put, List.setIfInBounds_toArray, List.set_cons_zero, List.set_cons_succ])
                        refine AllS.take (i := 29) (v := undef) (by rw [List.getElem?_toArray]; rfl) (by kernel_rfl) (by kernel_rfl) (by kernel_rfl) (KeepsIf.un (by kernel_rfl)) ?_
                        (try simp only [Act.put, List.setIfInBounds_toArray, List.set_cons_zero, List.set_cons_succ])
                        refine AllS.take (i := 30) (v := ?_) (by rw [List.getElem?_toArray]; rfl) (by kernel_rfl) (by kernel_rfl) (by kernel_rfl) (KeepsIf.read (by rfl) ?_) ?_
                        rotate_left
                        · intro W hSw
                          (try dsimp only at hSw)
                          go_simp
                          (try with_reducible rfl)
                        rotate_left
                        (try simp only [Act.put, List.setIfInBounds_toArray, List.set_cons_zero, List.set_cons_succ])
                        refine AllS.take (i := 31) (v := ?_) (by rw [List.getElem?_toArray]; rfl) (by kernel_rfl) (by kernel_rfl) (by kernel_rfl) (KeepsIf.read (by rfl) ?_) ?_
                        rotate_left
                        · intro W hSw
                          (try dsimp only at hSw)
                          go_simp
                          (try with_reducible rfl)
                        rotate_left
                        (try simp only [Act.put, List.setIfInBounds_toArray, List.set_cons_zero, List.set_cons_succ])
                        refine AllS.done (by kernel_rfl) (hR.out _ ?_) _
                        clear hR R
                        intro w12 b12
                        go_wp2_with fail
                        go_roundg (m - (k + 1))
                        case measure => omega
                        case rel => exact ⟨k + 1, by go_num, by omega, rfl, bel11.trans (b12.mono bel11.size), _, BK11.keep (S := fun _ => False) (Mod.of_below b12) id, HBR.out.step hlt (fun h => by cases h)⟩
                    · have ekq : ((k : Int) == (q : Int)) = false := by simp; omega
                      have ekq2 : ¬ (k : Int) = (q : Int) := by omega
                      have sameN : u = sb := by
                        have h2 := eA'.out
                        have h3 := eB'.out
                        rw [upA.out] at h2
                        rw [upB.out, if_neg hkq] at h3
                        rw [h2, h3]
                      subst sameN
                      by_cases hn0 : dk.n = 0
                      · have HEN : Hid (((dk.n : Int) == 0) = true ∧ dk.n = 0) := ⟨by rw [hn0]; rfl, hn0⟩
                        have hUu : u = Sty.first := by
                          have h2 := eA'.out
                          rw [upA.out, over_n0 _ _ hn0] at h2
                          exact h2
                        subst hUu
                        have HN1 := Lib.hid (fun w => neS Sty.first Sty.first w true (decide_eq_true rfl))
                        simp only [Bool.not_true] at HN1
                        go_wp2_with fail
                        refine (CF.out _).mono ?_
                        rintro e w9 ⟨rfl, b9⟩
                        have bel9 := (bel.setCell (p := ⟨w8.heap.size, k, none⟩) (Nat.le_refl _) (.bool false)).trans (b9.mono ((bel.setCell (p := ⟨w8.heap.size, k, none⟩) (Nat.le_refl _) (.bool false)).size))
                        have BK9 := (HBB.out.set_ k (.bool false)).keep (S := fun _ => False) (Mod.of_below b9) id
                        clear ck fk cz cp b9
                        go_wp2_with (refine nwS rfl rfl 14 rfl rfl (.tmp 116) rfl rfl .first (fun _ => rfl) (fun _ => rfl) ?_; intro w10 b10 B10; have bel10 := bel9.trans (b10.mono bel9.size); have cp10 := HC.out w10 bel10; have BK10 := BK9.keep (S := fun _ => False) (Mod.of_below b10) id; have hl9 : w8.heap.size < w9.heap.size := BK9.lt)
                        obtain ⟨w11, hw11⟩ : ∃ x : World, w10 = x := ⟨_, rfl⟩
                        subst hw11
                        have bel11 := bel10
                        have BK11 := BK10
                        have B11 := B10
                        have HSE : Hid ((cs.setIfInBounds k (.bool false))[k]? = some (.bool false)) := Array.getElem?_setIfInBounds_self_of_lt (by rw [HBR.out.1]; exact hlt)
                        refine region_go (by kernel_rfl) (fun R hR => ?_)
                        refine AllS.take (i := 0) (v := ?_) (by rw [List.getElem?_toArray]; rfl) (by kernel_rfl) (by kernel_rfl) (by kernel_rfl) (KeepsIf.read (by rfl) ?_) ?_
                        rotate_left
                        · intro W hSw
                          (try dsimp only at hSw)
                          go_simp
                          (try with_reducible rfl)
                        rotate_left
                        (try simp only [Act.put, List.setIfInBounds_toArray, List.set_cons_zero, List.set_cons_succ])
                        refine AllS.take (i := 1) (v := ?_) (by rw [List.getElem?_toArray]; rfl) (by kernel_rfl) (by kernel_rfl) (by kernel_rfl) (KeepsIf.read (by rfl) ?_) ?_
                        rotate_left
                        · intro W hSw
                          (try dsimp only at hSw)
                          go_simp
                          (try with_reducible rfl)
                        rotate_left
                        (try simp only [Act.put, List.setIfInBounds_toArray, List.set_cons_zero, List.set_cons_succ])
                        refine AllS.take (i := 2) (v := ?_) (by rw [List.getElem?_toArray]; rfl) (by kernel_rfl) (by kernel_rfl) (by kernel_rfl) (KeepsIf.read (by rfl) ?_) ?_
                        rotate_left
                        · intro W hSw
                          (try dsimp only at hSw)
                          go_simp
                          (try with_reducible rfl)
                        rotate_left
                        (try simp only [Act.put, List.setIfInBounds_toArray, List.set_cons_zero, List.set_cons_succ])
                        refine AllS.take (i := 3) (v := ?_) (by rw [List.getElem?_toArray]; rfl) (by kernel_rfl) (by kernel_rfl) (by kernel_rfl) (KeepsIf.read (by rfl) ?_) ?_
                        rotate_left
                        · intro W hSw
                          (try dsimp only at hSw)
                          go_simp
                          (try with_reducible rfl)
                        rotate_left
                        (try simp only [Act.put, List.setIfInBounds_toArray, List.set_cons_zero, List.set_cons_succ])
                        refine AllS.take (i := 4) (v := ?_) (by rw [List.getElem?_toArray]; rfl) (by kernel_rfl) (by kernel_rfl) (by kernel_rfl) (KeepsIf.read (by rfl) ?_) ?_
                        rotate_left
                        · intro W hSw
                          (try dsimp only at hSw)
                          have cq := HLD.out W (bel11.trans (hSw.mono bel11.size))
                          go_simp
                          (try with_reducible rfl)
                        rotate_left
                        (try simp only [Act.put, List.setIfInBounds_toArray, List.set_cons_zero, List.set_cons_succ])
                        refine AllS.take (i := 5) (v := .bool true) (by rw [List.getElem?_toArray]; rfl) (by kernel_rfl) (by kernel_rfl) (by kernel_rfl) (KeepsIf.read (by rfl) (fun W hSw => ?_)) ?_
                        · (try dsimp only at hSw)
                          have en := HEN.out; go_simp
                        (try simp only [Act.put, List.setIfInBounds_toArray, List.set_cons_zero, List.set_cons_succ])
                        refine AllS.take (i := 6) (v := ?_) (by rw [List.getElem?_toArray]; rfl) (by kernel_rfl) (by kernel_rfl) (by kernel_rfl) (KeepsIf.read (by rfl) ?_) ?_
                        rotate_left
                        · intro W hSw
                          (try dsimp only at hSw)
                          go_simp
                          (try with_reducible rfl)
                        rotate_left
                        (try simp only [Act.put, List.setIfInBounds_toArray, List.set_cons_zero, List.set_cons_succ])
                        refine AllS.take (i := 7) (v := ?_) (by rw [List.getElem?_toArray]; rfl) (by kernel_rfl) (by kernel_rfl) (by kernel_rfl) (KeepsIf.read (by rfl) ?_) ?_
                        rotate_left
                        · intro W hSw
                          (try dsimp only at hSw)
                          go_simp
                          (try with_reducible rfl)
                        rotate_left
                        (try simp only [Act.put, List.setIfInBounds_toArray, List.set_cons_zero, List.set_cons_succ])
                        refine AllS.take (i := 8) (v := ?_) (by rw [List.getElem?_toArray]; rfl) (by kernel_rfl) (by kernel_rfl) (by kernel_rfl) (KeepsIf.read (by rfl) ?_) ?_
                        rotate_left
                        · intro W hSw
                          (try dsimp only at hSw)
                          go_simp
                          (try with_reducible rfl)
                        rotate_left
                        (try simp only [Act.put, List.setIfInBounds_toArray, List.set_cons_zero, List.set_cons_succ])
                        refine AllS.take (i := 9) (v := ?_) (by rw [List.getElem?_toArray]; rfl) (by kernel_rfl) (by kernel_rfl) (by kernel_rfl) (KeepsIf.read (by rfl) ?_) ?_
                        rotate_left
                        · intro W hSw
                          (try dsimp only at hSw)
                          go_simp
                          (try with_reducible rfl)
                        rotate_left
                        (try simp only [Act.put, List.setIfInBounds_toArray, List.set_cons_zero, List.set_cons_succ])
                        refine AllS.take (i := 10) (v := .agg Sty.first.cells) (by rw [List.getElem?_toArray]; rfl) (by kernel_rfl) (by kernel_rfl) (by kernel_rfl) (KeepsIf.read (by rfl) (fun W hSw => ?_)) ?_
                        · (try dsimp only at hSw)
                          exact rdS (.tmp 138) rfl _ rfl _ (ha2 ▸ HLU.out W (bel11.trans (hSw.mono bel11.size)))
                        (try simp only [Act.put, List.setIfInBounds_toArray, List.set_cons_zero, List.set_cons_succ])
                        refine AllS.take (i := 11) (v := .agg Sty.first.cells) (by rw [List.getElem?_toArray]; rfl) (by kernel_rfl) (by kernel_rfl) (by kernel_rfl) (KeepsIf.read (by rfl) (fun W hSw => ?_)) ?_
                        · (try dsimp only at hSw)
                          exact rdS (.tmp 14) rfl _ rfl _ (B11.keep (S := fun _ => False) (Mod.of_below hSw) id).lies
                        (try simp only [Act.put, List.setIfInBounds_toArray, List.set_cons_zero, List.set_cons_succ])
                        refine AllS.take (i := 12) (v := .bool false) (by rw [List.getElem?_toArray]; rfl) (by kernel_rfl) (by kernel_rfl) (by kernel_rfl) (KeepsIf.read (by rfl) (fun W hSw => ?_)) ?_
                        · (try dsimp only at hSw)
                          have hne := HN1.out; go_simp
                        (try simp only [Act.put, List.setIfInBounds_toArray, List.set_cons_zero, List.set_cons_succ])
                        refine AllS.take (i := 13) (v := ?_) (by rw [List.getElem?_toArray]; rfl) (by kernel_rfl) (by kernel_rfl) (by kernel_rfl) (KeepsIf.read (by rfl) ?_) ?_
                        rotate_left
                        · intro W hSw
                          (try dsimp only at hSw)
                          go_simp
                          (try with_reducible rfl)
                        rotate_left
                        (try simp only [Act.put, List.setIfInBounds_toArray, List.set_cons_zero, List.set_cons_succ])
                        refine AllS.take (i := 14) (v := ?_) (by rw [List.getElem?_toArray]; rfl) (by kernel_rfl) (by kernel_rfl) (by kernel_rfl) (KeepsIf.read (by rfl) ?_) ?_
                        rotate_left
                        · intro W hSw
                          (try dsimp only at hSw)
                          go_simp
                          (try with_reducible rfl)
                        rotate_left
                        (try simp only [Act.put, List.setIfInBounds_toArray, List.set_cons_zero, List.set_cons_succ])
                        refine AllS.take (i := 15) (v := ?_) (by rw [List.getElem?_toArray]; rfl) (by kernel_rfl) (by kernel_rfl) (by kernel_rfl) (KeepsIf.read (by rfl) ?_) ?_
                        rotate_left
                        · intro W hSw
                          (try dsimp only at hSw)
                          go_simp
                          (try with_reducible rfl)
                        rotate_left
                        (try simp only [Act.put, List.setIfInBounds_toArray, List.set_cons_zero, List.set_cons_succ])
                        refine AllS.take (i := 16) (v := ?_) (by rw [List.getElem?_toArray]; rfl) (by kernel_rfl) (by kernel_rfl) (by kernel_rfl) (KeepsIf.read (by rfl) ?_) ?_
                        rotate_left
                        · intro W hSw
                          (try dsimp only at hSw)
                          go_simp
                          (try with_reducible rfl)
                        rotate_left
                        (try simp only [Act.put, List.setIfInBounds_toArray, List.set_cons_zero, List.set_cons_succ])
                        refine AllS.take (i := 17) (v := ?_) (by rw [List.getElem?_toArray]; rfl) (by kernel_rfl) (by kernel_rfl) (by kernel_rfl) (KeepsIf.read (by rfl) ?_) ?_
                        rotate_left
                        · intro W hSw
                          (try dsimp only at hSw)
                          go_simp
                          (try with_reducible rfl)
                        rotate_left
                        (try simp only [Act.put, List.setIfInBounds_toArray, List.set_cons_zero, List.set_cons_succ])
                        refine AllS.take (i := 18) (v := ?_) (by rw [List.getElem?_toArray]; rfl) (by kernel_rfl) (by kernel_rfl) (by kernel_rfl) (KeepsIf.read (by rfl) ?_) ?_
                        rotate_left
                        · intro W hSw
                          (try dsimp only at hSw)
                          have cq : W.cell? ⟨w8.heap.size, k, none⟩ = some (.bool false) := ((BK11.keep (S := fun _ => False) (Mod.of_below hSw) id).cell k).trans HSE.out
                          go_simp
                          (try with_reducible rfl)
                        rotate_left
                        (try simp only [Act.put, List.setIfInBounds_toArray, List.set_cons_zero, List.set_cons_succ])
                        refine AllS.take (i := 19) (v := ?_) (by rw [List.getElem?_toArray]; rfl) (by kernel_rfl) (by kernel_rfl) (by kernel_rfl) (KeepsIf.read (by rfl) ?_) ?_
                        rotate_left
                        · intro W hSw
                          (try dsimp only at hSw)
                          go_simp
                          (try with_reducible rfl)
                        rotate_left
                        (try simp only [Act.put, List.setIfInBounds_toArray, List.set_cons_zero, List.set_cons_succ])
                        refine AllS.take (i := 20) (v := ?_) (by rw [List.getElem?_toArray]; rfl) (by kernel_rfl) (by kernel_rfl) (by kernel_rfl) (KeepsIf.read (by rfl) ?_) ?_
                        rotate_left
                        · intro W hSw
                          (try dsimp only at hSw)
                          go_simp
                          (try with_reducible rfl)
                        rotate_left
                        (try simp only [Act.put, List.setIfInBounds_toArray, List.set_cons_zero, List.set_cons_succ])
                        refine AllS.take (i := 21) (v := ?_) (by rw [List.getElem?_toArray]; rfl) (by kernel_rfl) (by kernel_rfl) (by kernel_rfl) (KeepsIf.read (by rfl) ?_) ?_
                        rotate_left
                        · intro W hSw
                          (try dsimp only at hSw)
                          go_simp
                          (try with_reducible rfl)
                        rotate_left
                        (try simp only [Act.put, List.setIfInBounds_toArray, List.set_cons_zero, List.set_cons_succ])
                        refine AllS.take (i := 22) (v := ?_) (by rw [List.getElem?_toArray]; rfl) (by kernel_rfl) (by kernel_rfl) (by kernel_rfl) (KeepsIf.read (by rfl) ?_) ?_
                        rotate_left
                        · intro W hSw
                          (try dsimp only at hSw)
                          go_simp
                          (try with_reducible rfl)
                        rotate_left
                        (try simp only [Act.put, List.setIfInBounds_toArray, List.set_cons_zero, List.set_cons_succ])
                        refine AllS.take (i := 23) (v := ?_) (by rw [List.getElem?_toArray]; rfl) (by kernel_rfl) (by kernel_rfl) (by kernel_rfl) (KeepsIf.read (by rfl) ?_) ?_
                        rotate_left
                        · intro W hSw
                          (try dsimp only at hSw)
                          go_simp
                          (try with_reducible rfl)
                        rotate_left
                        (try simp only [Act.put, List.setIfInBounds_toArray, List.set_cons_zero, List.set_cons_succ])
                        refine AllS.take (i := 24) (v := .agg Sty.first.cells) (by rw [List.getElem?_toArray]; rfl) (by kernel_rfl) (by kernel_rfl) (by kernel_rfl) (KeepsIf.read (by rfl) (fun W hSw => ?_)) ?_
                        · (try dsimp only at hSw)
                          exact rdS (.tmp 152) rfl _ rfl _ (ha2 ▸ HLU.out W (bel11.trans (hSw.mono bel11.size)))
                        (try simp only [Act.put, List.setIfInBounds_toArray, List.set_cons_zero, List.set_cons_succ])
                        refine AllS.take (i := 25) (v := ?_) (by rw [List.getElem?_toArray]; rfl) (by kernel_rfl) (by kernel_rfl) (by kernel_rfl) (KeepsIf.read (by rfl) ?_) ?_
                        rotate_left
                        · intro W hSw
                          (try dsimp only at hSw)
                          go_simp
                          (try with_reducible rfl)
                        rotate_left
                        (try simp only [Act.put, List.setIfInBounds_toArray, List.set_cons_zero, List.set_cons_succ])
                        refine AllS.take (i := 26) (v := ?_) (by rw [List.getElem?_toArray]; rfl) (by kernel_rfl) (by kernel_rfl) (by kernel_rfl) (KeepsIf.read (by rfl) ?_) ?_
                        rotate_left
                        · intro W hSw
                          (try dsimp only at hSw)
                          go_simp
                          (try with_reducible rfl)
                        rotate_left
                        (try simp only [Act.put, List.setIfInBounds_toArray, List.set_cons_zero, List.set_cons_succ])
                        refine AllS.take (i := 27) (v := ?_) (by rw [List.getElem?_toArray]; rfl) (by kernel_rfl) (by kernel_rfl) (by kernel_rfl) (KeepsIf.read (by rfl) ?_) ?_
                        rotate_left
                        · intro W hSw
                          (try dsimp only at hSw)
                          go_simp
                          (try with_reducible rfl)
                        rotate_left
                        (try simp only [Act.put, List.setIfInBounds_toArray, List.set_cons_zero, List.set_cons_succ])
                        refine AllS.take (i := 28) (v := .agg Sty.first.cells) (by rw [List.getElem?_toArray]; rfl) (by kernel_rfl) (by kernel_rfl) (by kernel_rfl) (KeepsIf.read (by rfl) (fun W hSw => ?_)) ?_
                        · (try dsimp only at hSw)
                          exact rdS (.tmp 156) rfl _ rfl _ (ha3 ▸ HLS.out W (bel11.trans (hSw.mono bel11.size)))
                        (try simp only [Act.put, List.setIfInBounds_toArray, List.set_cons_zero, List.set_cons_succ])
                        refine AllS.take (i := 29) (v := .bool false) (by rw [List.getElem?_toArray]; rfl) (by kernel_rfl) (by kernel_rfl) (by kernel_rfl) (KeepsIf.read (by rfl) (fun W hSw => ?_)) ?_
                        · (try dsimp only at hSw)
                          have hne := HN1.out; go_simp
                        (try simp only [Act.put, List.setIfInBounds_toArray, List.set_cons_zero, List.set_cons_succ])
                        refine AllS.take (i := 30) (v := ?_) (by rw [List.getElem?_toArray]; rfl) (by kernel_rfl) (by kernel_rfl) (by kernel_rfl) (KeepsIf.read (by rfl) ?_) ?_
                        rotate_left
                        · intro W hSw
                          (try dsimp only at hSw)
                          go_simp
                          (try with_reducible rfl)
                        rotate_left
                        (try simp only [Act.put, List.setIfInBounds_toArray, List.set_cons_zero, List.set_cons_succ])
                        refine AllS.take (i := 31) (v := ?_) (by rw [List.getElem?_toArray]; rfl) (by kernel_rfl) (by kernel_rfl) (by kernel_rfl) (KeepsIf.read (by rfl) ?_) ?_
                        rotate_left
                        · intro W hSw
                          (try dsimp only at hSw)
                          go_simp
                          (try with_reducible rfl)
                        rotate_left
                        (try simp only [Act.put, List.setIfInBounds_toArray, List.set_cons_zero, List.set_cons_succ])
                        refine AllS.done (by kernel_rfl) (hR.out _ ?_) _
                        clear hR R
                        intro w12 b12
                        go_wp2_with fail
                        go_roundg (m - (k + 1))
                        case measure => omega
                        case rel => exact ⟨k + 1, by go_num, by omega, rfl, bel11.trans (b12.mono bel11.size), _, BK11.keep (S := fun _ => False) (Mod.of_below b12) id, HBR.out.step hlt (fun _ => by first | exact HUV.out rfl | exact HUV.out trivial)⟩
                      · have HEN : Hid (((dk.n : Int) == 0) = false ∧ ¬ dk.n = 0) := ⟨by simp; omega, hn0⟩
                        have HN1 := Lib.hid (fun w => neS u u w true (decide_eq_true rfl))
                        simp only [Bool.not_true] at HN1
                        go_wp2_with fail
                        refine (CF.out _).mono ?_
                        rintro e w9 ⟨rfl, b9⟩
                        have bel9 := (bel.setCell (p := ⟨w8.heap.size, k, none⟩) (Nat.le_refl _) (.bool false)).trans (b9.mono ((bel.setCell (p := ⟨w8.heap.size, k, none⟩) (Nat.le_refl _) (.bool false)).size))
                        have BK9 := (HBB.out.set_ k (.bool false)).keep (S := fun _ => False) (Mod.of_below b9) id
                        clear ck fk cz cp b9
                        go_wp2_with (refine nwS rfl rfl 14 rfl rfl (.tmp 116) rfl rfl .first (fun _ => rfl) (fun _ => rfl) ?_; intro w10 b10 B10; have bel10 := bel9.trans (b10.mono bel9.size); have cp10 := HC.out w10 bel10; have BK10 := BK9.keep (S := fun _ => False) (Mod.of_below b10) id; have hl9 : w8.heap.size < w9.heap.size := BK9.lt)
                        obtain ⟨w11, hw11⟩ : ∃ x : World, w10 = x := ⟨_, rfl⟩
                        subst hw11
                        have bel11 := bel10
                        have BK11 := BK10
                        have B11 := B10
                        have HSE : Hid ((cs.setIfInBounds k (.bool false))[k]? = some (.bool false)) := Array.getElem?_setIfInBounds_self_of_lt (by rw [HBR.out.1]; exact hlt)
                        refine region_go (by kernel_rfl) (fun R hR => ?_)
                        refine AllS.take (i := 0) (v := ?_) (by rw [List.getElem?_toArray]; rfl) (by kernel_rfl) (by kernel_rfl) (by kernel_rfl) (KeepsIf.read (by rfl) ?_) ?_
                        rotate_left
                        · intro W hSw
                          (try dsimp only at hSw)
                          go_simp
                          (try with_reducible rfl)
                        rotate_left
                        (try simp only [Act.put, List.setIfInBounds_toArray, List.set_cons_zero, List.set_cons_succ])
                        refine AllS.take (i := 1) (v := ?_) (by rw [List.getElem?_toArray]; rfl) (by kernel_rfl) (by kernel_rfl) (by kernel_rfl) (KeepsIf.read (by rfl) ?_) ?_
                        rotate_left
                        · intro W hSw
                          (try dsimp only at hSw)
                          go_simp
                          (try with_reducible rfl)
                        rotate_left
                        (try simp only [Act.put, List.setIfInBounds_toArray, List.set_cons_zero, List.set_cons_succ])
                        refine AllS.take (i := 2) (v := ?_) (by rw [List.getElem?_toArray]; rfl) (by kernel_rfl) (by kernel_rfl) (by kernel_rfl) (KeepsIf.read (by rfl) ?_) ?_
                        rotate_left
                        · intro W hSw
                          (try dsimp only at hSw)
                          go_simp
                          (try with_reducible rfl)
                        rotate_left
                        (try simp only [Act.put, List.setIfInBounds_toArray, List.set_cons_zero, List.set_cons_succ])
                        refine AllS.take (i := 3) (v := ?_) (by rw [List.getElem?_toArray]; rfl) (by kernel_rfl) (by kernel_rfl) (by kernel_rfl) (KeepsIf.read (by rfl) ?_) ?_
                        rotate_left
                        · intro W hSw
                          (try dsimp only at hSw)
                          go_simp
                          (try with_reducible rfl)
                        rotate_left
                        (try simp only [Act.put, List.setIfInBounds_toArray, List.set_cons_zero, List.set_cons_succ])
                        refine AllS.take (i := 4) (v := ?_) (by rw [List.getElem?_toArray]; rfl) (by kernel_rfl) (by kernel_rfl) (by kernel_rfl) (KeepsIf.read (by rfl) ?_) ?_
                        rotate_left
                        · intro W hSw
                          (try dsimp only at hSw)
                          have cq := HLD.out W (bel11.trans (hSw.mono bel11.size))
                          go_simp
                          (try with_reducible rfl)
                        rotate_left
                        (try simp only [Act.put, List.setIfInBounds_toArray, List.set_cons_zero, List.set_cons_succ])
                        refine AllS.take (i := 5) (v := .bool false) (by rw [List.getElem?_toArray]; rfl) (by kernel_rfl) (by kernel_rfl) (by kernel_rfl) (KeepsIf.read (by rfl) (fun W hSw => ?_)) ?_
                        · (try dsimp only at hSw)
                          have en := HEN.out; go_simp
                        (try simp only [Act.put, List.setIfInBounds_toArray, List.set_cons_zero, List.set_cons_succ])
                        refine AllS.take (i := 6) (v := ?_) (by rw [List.getElem?_toArray]; rfl) (by kernel_rfl) (by kernel_rfl) (by kernel_rfl) (KeepsIf.read (by rfl) ?_) ?_
                        rotate_left
                        · intro W hSw
                          (try dsimp only at hSw)
                          go_simp
                          (try with_reducible rfl)
                        rotate_left
                        (try simp only [Act.put, List.setIfInBounds_toArray, List.set_cons_zero, List.set_cons_succ])
                        refine AllS.take (i := 7) (v := undef) (by rw [List.getElem?_toArray]; rfl) (by kernel_rfl) (by kernel_rfl) (by kernel_rfl) (KeepsIf.un (by kernel_rfl)) ?_
                        (try simp only [Act.put, List.setIfInBounds_toArray, List.set_cons_zero, List.set_cons_succ])
                        refine AllS.take (i := 8) (v := undef) (by rw [List.getElem?_toArray]; rfl) (by kernel_rfl) (by kernel_rfl) (by kernel_rfl) (KeepsIf.un (by kernel_rfl)) ?_
                        (try simp only [Act.put, List.setIfInBounds_toArray, List.set_cons_zero, List.set_cons_succ])
                        refine AllS.take (i := 9) (v := undef) (by rw [List.getElem?_toArray]; rfl) (by kernel_rfl) (by kernel_rfl) (by kernel_rfl) (KeepsIf.un (by kernel_rfl)) ?_
                        (try simp only [Act.put, List.setIfInBounds_toArray, List.set_cons_zero, List.set_cons_succ])
                        refine AllS.take (i := 10) (v := undef) (by rw [List.getElem?_toArray]; rfl) (by kernel_rfl) (by kernel_rfl) (by kernel_rfl) (KeepsIf.un (by kernel_rfl)) ?_
                        (try simp only [Act.put, List.setIfInBounds_toArray, List.set_cons_zero, List.set_cons_succ])
                        refine AllS.take (i := 11) (v := undef) (by rw [List.getElem?_toArray]; rfl) (by kernel_rfl) (by kernel_rfl) (by kernel_rfl) (KeepsIf.un (by kernel_rfl)) ?_
                        (try simp only [Act.put, List.setIfInBounds_toArray, List.set_cons_zero, List.set_cons_succ])
                        refine AllS.take (i := 12) (v := undef) (by rw [List.getElem?_toArray]; rfl) (by kernel_rfl) (by kernel_rfl) (by kernel_rfl) (KeepsIf.un (by kernel_rfl)) ?_
                        (try simp only [Act.put, List.setIfInBounds_toArray, List.set_cons_zero, List.set_cons_succ])
                        refine AllS.take (i := 13) (v := ?_) (by rw [List.getElem?_toArray]; rfl) (by kernel_rfl) (by kernel_rfl) (by kernel_rfl) (KeepsIf.read (by rfl) ?_) ?_
                        rotate_left
                        · intro W hSw
                          (try dsimp only at hSw)
                          go_simp
                          (try with_reducible rfl)
                        rotate_left
                        (try simp only [Act.put, List.setIfInBounds_toArray, List.set_cons_zero, List.set_cons_succ])
                        refine AllS.take (i := 14) (v := ?_) (by rw [List.getElem?_toArray]; rfl) (by kernel_rfl) (by kernel_rfl) (by kernel_rfl) (KeepsIf.read (by rfl) ?_) ?_
                        rotate_left
                        · intro W hSw
                          (try dsimp only at hSw)
                          go_simp
                          (try with_reducible rfl)
                        rotate_left
                        (try simp only [Act.put, List.setIfInBounds_toArray, List.set_cons_zero, List.set_cons_succ])
                        refine AllS.take (i := 15) (v := ?_) (by rw [List.getElem?_toArray]; rfl) (by kernel_rfl) (by kernel_rfl) (by kernel_rfl) (KeepsIf.read (by rfl) ?_) ?_
                        rotate_left
                        · intro W hSw
                          (try dsimp only at hSw)
                          go_simp
                          (try with_reducible rfl)
                        rotate_left
                        (try simp only [Act.put, List.setIfInBounds_toArray, List.set_cons_zero, List.set_cons_succ])
                        refine AllS.take (i := 16) (v := ?_) (by rw [List.getElem?_toArray]; rfl) (by kernel_rfl) (by kernel_rfl) (by kernel_rfl) (KeepsIf.read (by rfl) ?_) ?_
                        rotate_left
                        · intro W hSw
                          (try dsimp only at hSw)
                          go_simp
                          (try with_reducible rfl)
                        rotate_left
                        (try simp only [Act.put, List.setIfInBounds_toArray, List.set_cons_zero, List.set_cons_succ])
                        refine AllS.take (i := 17) (v := ?_) (by rw [List.getElem?_toArray]; rfl) (by kernel_rfl) (by kernel_rfl) (by kernel_rfl) (KeepsIf.read (by rfl) ?_) ?_
                        rotate_left
                        · intro W hSw
                          (try dsimp only at hSw)
                          go_simp
                          (try with_reducible rfl)
                        rotate_left
                        (try simp only [Act.put, List.setIfInBounds_toArray, List.set_cons_zero, List.set_cons_succ])
                        refine AllS.take (i := 18) (v := ?_) (by rw [List.getElem?_toArray]; rfl) (by kernel_rfl) (by kernel_rfl) (by kernel_rfl) (KeepsIf.read (by rfl) ?_) ?_
                        rotate_left
                        · intro W hSw
                          (try dsimp only at hSw)
                          have cq : W.cell? ⟨w8.heap.size, k, none⟩ = some (.bool false) := ((BK11.keep (S := fun _ => False) (Mod.of_below hSw) id).cell k).trans HSE.out
                          go_simp
                          (try with_reducible rfl)
                        rotate_left
                        (try simp only [Act.put, List.setIfInBounds_toArray, List.set_cons_zero, List.set_cons_succ])
                        refine AllS.take (i := 19) (v := ?_) (by rw [List.getElem?_toArray]; rfl) (by kernel_rfl) (by kernel_rfl) (by kernel_rfl) (KeepsIf.read (by rfl) ?_) ?_
                        rotate_left
                        · intro W hSw
                          (try dsimp only at hSw)
                          go_simp
                          (try with_reducible rfl)
                        rotate_left
                        (try simp only [Act.put, List.setIfInBounds_toArray, List.set_cons_zero, List.set_cons_succ])
                        refine AllS.take (i := 20) (v := ?_) (by rw [List.getElem?_toArray]; rfl) (by kernel_rfl) (by kernel_rfl) (by kernel_rfl) (KeepsIf.read (by rfl) ?_) ?_
                        rotate_left
                        · intro W hSw
                          (try dsimp only at hSw)
                          go_simp
                          (try with_reducible rfl)
                        rotate_left
                        (try simp only [Act.put, List.setIfInBounds_toArray, List.set_cons_zero, List.set_cons_succ])
                        refine AllS.take (i := 21) (v := ?_) (by rw [List.getElem?_toArray]; rfl) (by kernel_rfl) (by kernel_rfl) (by kernel_rfl) (KeepsIf.read (by rfl) ?_) ?_
                        rotate_left
                        · intro W hSw
                          (try dsimp only at hSw)
                          go_simp
                          (try with_reducible rfl)
                        rotate_left
                        (try simp only [Act.put, List.setIfInBounds_toArray, List.set_cons_zero, List.set_cons_succ])
                        refine AllS.take (i := 22) (v := ?_) (by rw [List.getElem?_toArray]; rfl) (by kernel_rfl) (by kernel_rfl) (by kernel_rfl) (KeepsIf.read (by rfl) ?_) ?_
                        rotate_left
                        · intro W hSw
                          (try dsimp only at hSw)
                          go_simp
                          (try with_reducible rfl)
                        rotate_left
                        (try simp only [Act.put, List.setIfInBounds_toArray, List.set_cons_zero, List.set_cons_succ])
                        refine AllS.take (i := 23) (v := ?_) (by rw [List.getElem?_toArray]; rfl) (by kernel_rfl) (by kernel_rfl) (by kernel_rfl) (KeepsIf.read (by rfl) ?_) ?_
                        rotate_left
                        · intro W hSw
                          (try dsimp only at hSw)
                          go_simp
                          (try with_reducible rfl)
                        rotate_left
                        (try simp only [Act.put, List.setIfInBounds_toArray, List.set_cons_zero, List.set_cons_succ])
                        refine AllS.take (i := 24) (v := .agg u.cells) (by rw [List.getElem?_toArray]; rfl) (by kernel_rfl) (by kernel_rfl) (by kernel_rfl) (KeepsIf.read (by rfl) (fun W hSw => ?_)) ?_
                        · (try dsimp only at hSw)
                          exact rdS (.tmp 152) rfl _ rfl _ (ha2 ▸ HLU.out W (bel11.trans (hSw.mono bel11.size)))
                        (try simp only [Act.put, List.setIfInBounds_toArray, List.set_cons_zero, List.set_cons_succ])
                        refine AllS.take (i := 25) (v := ?_) (by rw [List.getElem?_toArray]; rfl) (by kernel_rfl) (by kernel_rfl) (by kernel_rfl) (KeepsIf.read (by rfl) ?_) ?_
                        rotate_left
                        · intro W hSw
                          (try dsimp only at hSw)
                          go_simp
                          (try with_reducible rfl)
                        rotate_left
                        (try simp only [Act.put, List.setIfInBounds_toArray, List.set_cons_zero, List.set_cons_succ])
                        refine AllS.take (i := 26) (v := ?_) (by rw [List.getElem?_toArray]; rfl) (by kernel_rfl) (by kernel_rfl) (by kernel_rfl) (KeepsIf.read (by rfl) ?_) ?_
                        rotate_left
                        · intro W hSw
                          (try dsimp only at hSw)
                          go_simp
                          (try with_reducible rfl)
                        rotate_left
                        (try simp only [Act.put, List.setIfInBounds_toArray, List.set_cons_zero, List.set_cons_succ])
                        refine AllS.take (i := 27) (v := ?_) (by rw [List.getElem?_toArray]; rfl) (by kernel_rfl) (by kernel_rfl) (by kernel_rfl) (KeepsIf.read (by rfl) ?_) ?_
                        rotate_left
                        · intro W hSw
                          (try dsimp only at hSw)
                          go_simp
                          (try with_reducible rfl)
                        rotate_left
                        (try simp only [Act.put, List.setIfInBounds_toArray, List.set_cons_zero, List.set_cons_succ])
                        refine AllS.take (i := 28) (v := .agg u.cells) (by rw [List.getElem?_toArray]; rfl) (by kernel_rfl) (by kernel_rfl) (by kernel_rfl) (KeepsIf.read (by rfl) (fun W hSw => ?_)) ?_
                        · (try dsimp only at hSw)
                          exact rdS (.tmp 156) rfl _ rfl _ (ha3 ▸ HLS.out W (bel11.trans (hSw.mono bel11.size)))
                        (try simp only [Act.put, List.setIfInBounds_toArray, List.set_cons_zero, List.set_cons_succ])
                        refine AllS.take (i := 29) (v := .bool false) (by rw [List.getElem?_toArray]; rfl) (by kernel_rfl) (by kernel_rfl) (by kernel_rfl) (KeepsIf.read (by rfl) (fun W hSw => ?_)) ?_
                        · (try dsimp only at hSw)
                          have hne := HN1.out; go_simp
                        (try simp only [Act.put, List.setIfInBounds_toArray, List.set_cons_zero, List.set_cons_succ])
                        refine AllS.take (i := 30) (v := ?_) (by rw [List.getElem?_toArray]; rfl) (by kernel_rfl) (by kernel_rfl) (by kernel_rfl) (KeepsIf.read (by rfl) ?_) ?_
                        rotate_left
                        · intro W hSw
                          (try dsimp only at hSw)
                          go_simp
                          (try with_reducible rfl)
                        rotate_left
                        (try simp only [Act.put, List.setIfInBounds_toArray, List.set_cons_zero, List.set_cons_succ])
                        refine AllS.take (i := 31) (v := ?_) (by rw [List.getElem?_toArray]; rfl) (by kernel_rfl) (by kernel_rfl) (by kernel_rfl) (KeepsIf.read (by rfl) ?_) ?_
                        rotate_left
                        · intro W hSw
                          (try dsimp only at hSw)
                          go_simp
                          (try with_reducible rfl)
                        rotate_left
                        (try simp only [Act.put, List.setIfInBounds_toArray, List.set_cons_zero, List.set_cons_succ])
                        refine AllS.done (by kernel_rfl) (hR.out _ ?_) _
                        clear hR R
                        intro w12 b12
                        go_wp2_with fail
                        go_roundg (m - (k + 1))
                        case measure => omega
                        case rel => exact ⟨k + 1, by go_num, by omega, rfl, bel11.trans (b12.mono bel11.size), _, BK11.keep (S := fun _ => False) (Mod.of_below b12) id, HBR.out.step hlt (fun _ => by first | exact HUV.out rfl | exact HUV.out trivial)⟩
                · obtain rfl : k = m := by omega
                  go_wp2_with fail
                  refine (CH.out _).mono ?_
                  rintro e wh ⟨rfl, bh⟩
                  go_wp2_with fail
                  go_ret
                  exact ⟨rfl, below_seq (below_seq b18 bel) bh⟩
            · have hqz : (n : Int) ≤ q := by omega
              clear hz0
              go_wp2_with (refine ldDIf (by kernel_rfl) (.tmp 41) rfl _ rfl d (B3.part 1 (chg_d q d)) ?_)
              refine (CD.out _).mono ?_
              rintro e w4 ⟨rfl, b4⟩
              have cz4 : w4.cell? ⟨w.heap.size, 0, none⟩ = some (.int .i64 q) := (b4.cell (p := ⟨w.heap.size, 0, none⟩) B3.lt).trans cz
              go_wp2_with fail
              refine (CH.out _).mono ?_
              rintro e wh ⟨rfl, bh⟩
              go_wp2_with fail
              go_ret
              exact ⟨rfl, below_seq (below_seq b13 b4) bh⟩
        · rw [hcd] at CD
          go_wp2_with (refine ldDIf (by kernel_rfl) (.tmp 41) rfl _ rfl d (B3.part 1 (chg_d z d)) ?_)
          refine (CD.out _).mono ?_
          rintro e w4 ⟨rfl, b4⟩
          go_wp2_with fail
          refine (CH.out _).mono ?_
          rintro e wh ⟨rfl, bh⟩
          go_wp2_with fail
          go_ret
          exact ⟨rfl, below_seq (below_seq b13 b4) bh⟩
end Go.Proofs.Ythdihhfbkfenmaa
