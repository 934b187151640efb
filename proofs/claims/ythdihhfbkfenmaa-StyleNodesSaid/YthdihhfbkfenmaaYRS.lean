/- Contract of the document's Styles for layer 6. Conditions: the lists lie where the slices say, at most 900 elements each; bits are 16-bit numbers. -/
import Derived.Test.YthdihhfbkfenmaaY11
import Derived.Test.YthdihhfbkfenmaaYA
import Derived.Test.YthdihhfbkfenmaaYApp
namespace Go.Proofs.Ythdihhfbkfenmaa
open Go.ChangeShapes Go.WideShapes Go.ChangeAt Go.RowKit

set_option maxRecDepth 100000 in
set_option maxHeartbeats 8000000 in
theorem rstyles_any (base : Sty) (pv lv : Value) (ps : List Int) (ds : List Dcl) (w : World) (hP : Row (fun _ => False) w pv (ps.map (Value.int .i64))) (hD : Ds w lv ds) (h16 : Wf16 ds) (hn1 : ps.length ≤ 900) (hn2 : ds.length ≤ 900) :
    Calls Try.prog 20 #[.agg base.cells, pv, lv] w (StyPost w base ps ds) := by
  have HP := Lib.hid hP
  have HD := Lib.hid hD
  have H16 := Lib.hid h16
  have CC := Lib.hid (fun w => rcheck_any base w)
  have CAT : Hid (∀ (W : World) (i : Nat), Below w.heap.size w W → ps.length = ds.length → okP ps → i < ds.length → Calls Try.prog 29 #[.agg base.cells, pv, lv, .int .i64 (i : Int)] W fun e w' => e = .returned (.agg ((styK base ps ds ds.length).getD i .zero).cells) ∧ Below W.heap.size W w') := fun W i hW h1 h2 h3 => rat_any base pv lv ps ds i W (hP.below hW) (hD.below hW) h16 h1 h2 h3
  obtain ⟨A, c, rfl⟩ := hP.form
  obtain ⟨B, c2, rfl⟩ := hD.form
  rw [List.length_map] at HP CAT ⊢
  have R0 : Hid (¬ (ps.length = ds.length ∧ okP ps) → StyRes base ps ds 2 []) := fun h => .inl ⟨h, rfl, rfl⟩
  have R1 : Hid (ps.length = ds.length → okP ps → ¬ (vld base = true ∧ okD ds) → StyRes base ps ds 60 []) := fun h1 h2 h => .inr (.inl ⟨⟨h1, h2⟩, h, rfl, rfl⟩)
  have R2 : Hid (ps.length = ds.length → okP ps → vld base = true → okD ds → StyRes base ps ds 0 (styK base ps ds ds.length)) := fun h1 h2 h3 h4 => .inr (.inr ⟨⟨h1, h2⟩, ⟨h3, h4⟩, rfl, rfl⟩)
  obtain ⟨n, hl⟩ : ∃ n, ds.length = n := ⟨_, rfl⟩
  obtain ⟨m, hm⟩ : ∃ m, ps.length = m := ⟨_, rfl⟩
  have HL := Lib.hid hl
  have HM := Lib.hid hm
  rw [hl] at hn2 HD CAT R0 R1 R2 ⊢
  rw [hm] at hn1 HP CAT R0 R1 R2 ⊢
  clear hP hD h16 hl hm
  by_cases hnm : m = n
  · subst hnm
    have R0' : Hid (¬ okP ps → StyRes base ps ds 2 []) := fun h => R0.out (fun h2 => h h2.2)
    have R1' : Hid (okP ps → ¬ (vld base = true ∧ okD ds) → StyRes base ps ds 60 []) := fun h => R1.out rfl h
    have R2' : Hid (okP ps → vld base = true → okD ds → StyRes base ps ds 0 (styK base ps ds m)) := fun h => R2.out rfl h
    have CA1 : Hid (okP ps → ∀ (W : World) (i : Nat), Below w.heap.size w W → i < m → Calls Try.prog 29 #[.agg base.cells, .slice A m c, .slice B m c2, .int .i64 (i : Int)] W fun e w' => e = .returned (.agg ((styK base ps ds m).getD i .zero).cells) ∧ Below W.heap.size W w') := fun ho W i hW hi => CAT.out W i hW rfl ho hi
    clear R0 R1 R2 CAT
    go_enter Try.func20, Try.ntmps20
    go_wp2_with (refine bxSV rfl (.tmp 0) rfl base rfl ?_; intro w1 b1 B1)
    go_loopg [8] m (fun kx s8 wr => w1 = wr ∧ ∃ k : Nat, s8 = .int .i64 k ∧ k ≤ m ∧ kx = m - k ∧ Hid (∀ i, i < k → -1 ≤ ps.getD i 0 ∧ ps.getD i 0 < i))
    case atStart => exact ⟨rfl, 0, rfl, by omega, rfl, Lib.hid (fun i hi => by omega)⟩
    case round =>
      obtain ⟨rfl, k, rfl, hk, rfl, HK⟩ := hrel
      by_cases hlt : k < m
      · have hkl : k < ps.length := by rw [HM.out]; exact hlt
        have hz : (k : Int) < m := by omega
        obtain ⟨p, hp⟩ : ∃ p, ps.getD k 0 = p := ⟨_, rfl⟩
        have hpk := getD_of (0 : Int) hkl
        rw [hp] at hpk
        obtain ⟨a, cap2, hv, hab, _, hcell⟩ := HP.out.at_ (by simp; omega)
        injection hv with hv1 hv2 hv3
        subst hv1 hv3
        have hc0 : w.cell? (a.add k) = some (.int .i64 p) := hcell k _ (by rw [List.getElem?_map, hpk]; rfl)
        have hc : w1.cell? (a.add k) = some (.int .i64 p) := (b1.cell (by rw [block_of_add]; exact hab)).trans hc0
        have HPP := Lib.hid hp
        clear hv2 hcell hpk hkl hp hc0
        have bad : Hid (¬ (-1 ≤ p ∧ p < k) → ¬ okP ps) := fun hn h => hn (by
          have := h k (by rw [HM.out]; exact hlt)
          rw [HPP.out] at this
          exact this)
        by_cases h1 : p < -1
        · have RR := Lib.hid (R0'.out (bad.out (by omega)))
          clear R0' R1' R2' CA1 bad
          go_wp2_with fail
          go_ret2
          exact StyPost.bad RR.out b1
        · by_cases h2 : p < k
          · have h3 : -1 ≤ p := by omega
            clear h1
            go_wp2_with fail
            go_roundg (m - (k + 1))
            case measure => omega
            case rel => exact ⟨rfl, k + 1, by go_num, by omega, rfl, Lib.hid (upto_succ (p := fun i => -1 ≤ ps.getD i 0 ∧ ps.getD i 0 < i) HK.out (by rw [HPP.out]; exact ⟨h3, h2⟩))⟩
          · have h3 : -1 ≤ p := by omega
            have h4 : (k : Int) ≤ p := by omega
            have RR := Lib.hid (R0'.out (bad.out (by omega)))
            clear h1 h2 R0' R1' R2' CA1 bad
            go_wp2_with fail
            go_ret2
            exact StyPost.bad RR.out b1
      · obtain rfl : k = m := by omega
        have HOK : Hid (okP ps) := fun i hi => HK.out i (by rw [← HM.out]; exact hi)
        have R1' := Lib.hid (R1'.out HOK.out)
        have R2' := Lib.hid (R2'.out HOK.out)
        have CA2 := Lib.hid (CA1.out HOK.out)
        clear R0' CA1 hlt hk HK HOK
        rcases chk_cases base with ⟨hv, hc⟩ | ⟨hv, hc⟩
        · rw [hc] at CC
          have HV := Lib.hid hv
          clear hv hc
          go_wp2_with (refine ldS rfl (.tmp 3) rfl _ rfl base B1.lies ?_)
          refine (CC.out _).mono ?_
          rintro e w2 ⟨rfl, b2⟩
          have b12 := below_seq b1 b2
          have B2 := B1.keep (S := fun _ => False) (Mod.of_below b2) id
          clear B1 b1 b2 CC
          go_wp2_with fail
          go_loopg [9] k (fun kx s9 wr => ∃ j : Nat, s9 = .int .i64 j ∧ j ≤ k ∧ kx = k - j ∧ Below w.heap.size w wr ∧ Blk wr w.heap.size 23 base.cells ∧ Hid (∀ i, i < j → vldD (ds.getD i .zero) = true))
          case atStart => exact ⟨0, rfl, by omega, rfl, b12, B2, Lib.hid (fun i hi => by omega)⟩
          case round =>
            obtain ⟨j, rfl, hj, rfl, bel, hB, HK⟩ := hrel
            clear B2 b12
            obtain ⟨wo, rfl⟩ : ∃ wo : World, wo = wr := ⟨_, rfl⟩
            by_cases hlt : j < k
            · have hkl : j < ds.length := by rw [HL.out]; exact hlt
              have hz : (j : Int) < k := by omega
              obtain ⟨d, hd⟩ : ∃ d, ds.getD j .zero = d := ⟨_, rfl⟩
              have hdk := getD_of Dcl.zero hkl
              have hd16 := H16.out j hkl
              rw [hd] at hdk hd16
              have C := Lib.hid (fun w => rchkd_any d w hd16)
              obtain ⟨a, cap2, o, hv, hab, ha, hL⟩ := HD.out.get bel hdk
              injection hv with hv1 hv2 hv3
              subst hv1 hv3
              have HDD := Lib.hid hd
              have HKL := Lib.hid hkl
              clear hv2 hdk hkl hd hd16
              rcases chkD_cases d with ⟨hv, hc⟩ | ⟨hv, hc⟩
              · rw [hc] at C
                have HVD := Lib.hid hv
                clear hv hc
                go_wp2_with (refine ldD rfl (.tmp 47) rfl _ rfl d (ha ▸ hL) ?_)
                refine (C.out _).mono ?_
                rintro e w3 ⟨rfl, b3⟩
                go_wp2_with fail
                go_roundg (k - (j + 1))
                case measure => omega
                case rel => exact ⟨j + 1, by go_num, by omega, rfl, bel.trans (b3.mono bel.size), hB.keep (S := fun _ => False) (Mod.of_below b3) id, Lib.hid (upto_succ (p := fun i => vldD (ds.getD i .zero) = true) HK.out (by rw [HDD.out]; exact HVD.out))⟩
              · rw [hc] at C
                have RR := Lib.hid (R1'.out (fun h => by
                  have := h.2 j HKL.out
                  rw [HDD.out, hv] at this
                  cases this))
                clear hv hc R1' R2'
                go_wp2_with (refine ldD rfl (.tmp 47) rfl _ rfl d (ha ▸ hL) ?_)
                refine (C.out _).mono ?_
                rintro e w3 ⟨rfl, b3⟩
                go_wp2_with fail
                go_ret2
                exact StyPost.bad RR.out (bel.trans (b3.mono bel.size))
            · obtain rfl : j = k := by omega
              have RR := Lib.hid (R2'.out HV.out (fun i hi => HK.out i (by rw [← HL.out]; exact hi)))
              clear R1' R2' hlt hj HK HV
              have hrs := bel.size
              go_wp2_with fail
              go_loopg [10, 11] j (fun kx s10 s11 wr => ∃ (i : Nat) (v0 : Value), s11 = .int .i64 i ∧ v0 = s10 ∧ i ≤ j ∧ kx = j - i ∧ Below w.heap.size w wr ∧ Blk wr w.heap.size 23 base.cells ∧ wr.ownsRow (w.heap.size + 1) 23 9 v0 i (flatS (styK base ps ds i)))
              case atStart => exact ⟨0, _, rfl, rfl, by omega, rfl, bel, hB, ⟨rfl, .inl ⟨rfl, rfl⟩⟩⟩
              case round =>
                obtain ⟨i, v0, rfl, rfl, hi, rfl, beli, hBi, hown⟩ := hrel
                clear hB bel hrs
                obtain ⟨wi, rfl⟩ : ∃ wi : World, wi = wr := ⟨_, rfl⟩
                have hlt0 := hBi.lt
                by_cases hij : i < j
                · have hz : (i : Int) < j := by omega
                  have C := Lib.hid (CA2.out wi i beli hij)
                  obtain ⟨u, hu⟩ : ∃ u, (styK base ps ds j).getD i .zero = u := ⟨_, rfl⟩
                  have hsn : styK base ps ds (i + 1) = styK base ps ds i ++ [u] := by
                    have e : (styK base ps ds (i + 1)).getD i .zero = u := by rw [← hu]; exact styK_get base ps ds i (i + 1) j (by omega) hij
                    have hli := styK_len base ps ds i
                    rw [← e]
                    simp only [styK, List.getD_eq_getElem?_getD]
                    rw [List.getElem?_append_right (by omega), hli, Nat.sub_self]
                    rfl
                  have HSN := Lib.hid hsn
                  rw [hu] at C
                  have HOWN := Lib.hid hown
                  clear hu hsn hown
                  go_wp2_with (refine ldS rfl (.tmp 3) rfl _ rfl base hBi.lies ?_)
                  refine C.out.mono ?_
                  rintro e w4 ⟨rfl, b4⟩
                  have hown4 := own_keep HOWN.out (S := fun _ => False) (Mod.of_below b4) (fun _ _ h => h)
                  have hs4 : w.heap.size + 1 ≤ w4.heap.size := by have := b4.size; omega
                  go_wp2_with (refine apS rfl (.tmp 62) rfl 63 rfl rfl (.tmp 57) rfl u rfl v0 (fun _ => rfl) (fun _ => rfl) (w.heap.size + 1) i _ hown4 (by omega) hs4 ?_; intro uu v5 w5 hown5 b5)
                  go_roundg (j - (i + 1))
                  case measure => omega
                  case rel =>
                    have b45 : Below (w.heap.size + 1) wi w5 := (b4.mono (by omega)).trans b5
                    exact ⟨i + 1, _, by go_num, rfl, by omega, rfl, beli.trans (b45.mono (by omega)), (b45.block _ (Nat.lt_succ_self _)).trans hBi, by rw [HSN.out, flatS_snoc]; exact hown5⟩
                · obtain rfl : i = j := by omega
                  have hss := own_ss hown (styK_len base ps ds i)
                  clear hown
                  go_wp2_with fail
                  go_ret2
                  exact ⟨_, 0, _, rfl, RR.out, hss, beli⟩
        · rw [hc] at CC
          have RR := Lib.hid (R1'.out (fun h => by rw [hv] at h; cases h.1))
          clear hv hc R1' R2'
          go_wp2_with (refine ldS rfl (.tmp 3) rfl _ rfl base B1.lies ?_)
          refine (CC.out _).mono ?_
          rintro e w2 ⟨rfl, b2⟩
          go_wp2_with fail
          go_ret2
          exact StyPost.bad RR.out (below_seq b1 b2)
  · have h1 : ((m : Int) == (n : Int)) = false := by simp; omega
    have h2 : ((m : Int) != (n : Int)) = true := by simp; omega
    have RR := Lib.hid (R0.out (fun h => hnm h.1))
    clear R0 R1 R2 CAT hnm
    go_enter Try.func20, Try.ntmps20
    go_wp2_with (refine bxSV rfl (.tmp 0) rfl base rfl ?_; intro w1 b1 B1)
    go_ret2
    exact StyPost.bad RR.out b1
end Go.Proofs.Ythdihhfbkfenmaa
