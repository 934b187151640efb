/- Contract of the document's At for layer 6: each part of the nearest node that says it. Conditions: the lists lie where the slices say, at most 1000 elements each, as many parents as declarations, each parent below its node; bits are 16-bit numbers. -/
import Derived.Test.YthdihhfbkfenmaaY7
import Derived.Test.YthdihhfbkfenmaaYV
import Derived.Test.YthdihhfbkfenmaaYTail
namespace Go.Proofs.Ythdihhfbkfenmaa
open Go.ChangeShapes Go.WideShapes Go.ChangeAt Go.RowKit

theorem rsays_any (i : Nat) (hi : i < 8) (d : Dcl) (w : World) (hn : d.n < 65536) :
    Calls Try.prog 24 #[.agg d.cells, .int .i64 (i : Int)] w fun e w' => e = .returned (.bool (d.n.testBit i)) ∧ Below w.heap.size w w' :=
  eight (p := fun i => Calls Try.prog 24 #[.agg d.cells, .int .i64 (i : Int)] w fun e w' => e = .returned (.bool (d.n.testBit i)) ∧ Below w.heap.size w w') (rsays0 d w hn) (rsays1 d w hn) (rsays2 d w hn) (rsays3 d w hn) (rsays4 d w hn) (rsays5 d w hn) (rsays6 d w hn) (rsays7 d w hn) i hi
theorem rone_any (i : Nat) (hi : i < 8) (s d : Sty) (w : World) :
    Calls Try.prog 25 #[.agg s.cells, .agg d.cells, .int .i64 (i : Int)] w fun e w' => e = .returned (.agg (put1 i s d).cells) ∧ Below w.heap.size w w' :=
  eight (p := fun i => Calls Try.prog 25 #[.agg s.cells, .agg d.cells, .int .i64 (i : Int)] w fun e w' => e = .returned (.agg (put1 i s d).cells) ∧ Below w.heap.size w w') (rone0 s d w) (rone1 s d w) (rone2 s d w) (rone3 s d w) (rone4 s d w) (rone5 s d w) (rone6 s d w) (rone7 s d w) i hi

set_option maxRecDepth 100000 in
set_option maxHeartbeats 8000000 in
theorem rat_any (base : Sty) (pv lv : Value) (ps : List Int) (ds : List Dcl) (i : Nat) (w : World) (hP : Row (fun _ => False) w pv (ps.map (Value.int .i64))) (hD : Ds w lv ds) (h16 : Wf16 ds) (hlen : ps.length = ds.length) (hok : okP ps) (hi : i < ds.length) :
    Calls Try.prog 29 #[.agg base.cells, pv, lv, .int .i64 (i : Int)] w fun e w' => e = .returned (.agg ((styK base ps ds ds.length).getD i .zero).cells) ∧ Below w.heap.size w w' := by
  have HP := Lib.hid hP
  have HD := Lib.hid hD
  have H16 := Lib.hid h16
  have HOK := Lib.hid hok
  have HS := Lib.hid (fun q (hq : q < ds.length) => styK_at base ps ds ds.length hok (by omega) q hq)
  obtain ⟨A, c, rfl⟩ := hP.form
  obtain ⟨B, c2, rfl⟩ := hD.form
  rw [List.length_map] at HP ⊢
  obtain ⟨n, hl⟩ : ∃ n, ds.length = n := ⟨_, rfl⟩
  have hm : ps.length = n := hlen.trans hl
  have HL := Lib.hid hl
  have HM := Lib.hid hm
  rw [hl] at hi HD HS ⊢
  rw [hm] at HP ⊢
  obtain ⟨LL, hLL⟩ : ∃ LL, styK base ps ds n = LL := ⟨_, rfl⟩
  rw [hLL] at HS ⊢
  obtain ⟨T, hT⟩ : ∃ T, LL.getD i .zero = T := ⟨_, rfl⟩
  have HT0 : Hid (upV base LL (i : Int) = T) := by
    show _ = _
    unfold upV
    rw [if_pos (by omega), Int.toNat_natCast, hT]
  rw [hT]
  have hm1 : Hid (upV base LL (-1) = base) := by
    show _ = _
    unfold upV
    rw [if_neg (by omega)]
  clear hP hD h16 hlen hok hl hm hLL hT
  go_enter Try.func29, Try.ntmps29
  go_wp2_with (first
    | (refine bxSV rfl (.tmp 0) rfl base rfl ?_; intro w1 b1 B1)
    | (refine alSV (o := ⟨some 8, _, _, _, _, _⟩) rfl rfl ?_; intro w2 b2 B2)
    | (refine ldS rfl (.tmp 4) rfl _ rfl base (Blk.lies (B1.keep (S := fun _ => False) (Mod.of_below b2) id)) ?_)
    | (refine nwS rfl rfl 9 rfl rfl (.tmp 12) rfl rfl base (fun _ => rfl) (fun _ => rfl) ?_; intro w3 b3 B3))
  have hg8 : w.heap.size ≤ w1.heap.size := b1.size
  have hlt8 : w1.heap.size < w2.heap.size := B2.lt
  have b03 := below_seq (below_seq b1 b2) b3
  have A8 := B2.keep (S := fun _ => False) (Mod.of_below b3) id
  have A9 : Blk w3 w2.heap.size 23 (ovk 0 base 255 T).cells := ovk_zero base 255 T ▸ B3
  clear b1 B1 b2 B2 b3 B3
  obtain ⟨g8, hq8⟩ : ∃ g, w1.heap.size = g := ⟨_, rfl⟩
  obtain ⟨g9, hq9⟩ : ∃ g, w2.heap.size = g := ⟨_, rfl⟩
  rw [hq8] at hg8 hlt8 A8 ⊢
  rw [hq9] at hlt8 A9 ⊢
  clear hq8 hq9
  go_loopg [10] 8 (fun kx s10 wr => ∃ j : Nat, s10 = .int .i64 j ∧ j ≤ 8 ∧ kx = 8 - j ∧ Below w.heap.size w wr ∧ Blk wr g8 23 Sty.zero.cells ∧ Blk wr g9 23 (ovk j base 255 T).cells)
  case atStart => exact ⟨0, rfl, by omega, rfl, b03, A8, A9⟩
  case round =>
    obtain ⟨j, rfl, hj, rfl, belo, h8, h9⟩ := hrel
    clear A8 A9 b03
    obtain ⟨wo, rfl⟩ : ∃ wo : World, wo = wr := ⟨_, rfl⟩
    by_cases hj8 : j < 8
    · have hjz : (j : Int) < 8 := by omega
      have hrs := belo.size
      have H9 := Lib.hid h9
      have H8 := Lib.hid h8
      clear h8 h9
      go_wp2_with fail
      go_loopg [11] (i + 1) (fun kx2 s11 wi => ∃ z : Int, s11 = .int .i64 z ∧ -1 ≤ z ∧ z ≤ i ∧ kx2 = (z + 1).toNat ∧ Below wo.heap.size wo wi ∧ Hid (∀ X, put1 j X T = put1 j X (upV base LL z)))
      case atStart => exact ⟨i, rfl, by omega, by omega, by omega, Below.refl _ _, Lib.hid (fun X => by rw [HT0.out])⟩
      case round =>
        obtain ⟨z, rfl, hz1, hz2, rfl, beli, HT⟩ := hrel
        obtain ⟨wi, rfl⟩ : ∃ wi : World, wi = wr := ⟨_, rfl⟩
        have hrs2 := beli.size
        by_cases h0 : 0 ≤ z
        · obtain ⟨q, rfl⟩ : ∃ q : Nat, z = q := ⟨z.toNat, by omega⟩
          have hqn : q < n := by omega
          have hqz : (q : Int) < n := by omega
          have hkl : q < ds.length := by rw [HL.out]; exact hqn
          have hkp : q < ps.length := by rw [HM.out]; exact hqn
          have hstep := HS.out q hqn
          obtain ⟨d, hd⟩ : ∃ d, ds.getD q .zero = d := ⟨_, rfl⟩
          have hdk := getD_of Dcl.zero hkl
          have hd16 := H16.out q hkl
          obtain ⟨p, hp⟩ : ∃ p, ps.getD q 0 = p := ⟨_, rfl⟩
          have hpk := getD_of (0 : Int) hkp
          have hpr := HOK.out q hkp
          rw [hd] at hdk hd16 hstep
          rw [hp] at hpk hpr hstep
          obtain ⟨q1, q2⟩ := hpr
          have hup : upV base LL (q : Int) = over (upV base LL p) d := by
            rw [← hstep]
            unfold upV
            rw [if_pos h0, Int.toNat_natCast]
          obtain ⟨a2, cap2, o, hv, hab, ha, hL⟩ := HD.out.get (belo.trans (beli.mono hrs)) hdk
          injection hv with hv1 hv2 hv3
          subst hv1 hv3
          obtain ⟨a1, cap1, hv, hab1, _, hcell⟩ := HP.out.at_ (by simp; omega)
          injection hv with hv1 hv4 hv3
          subst hv1 hv3
          have hc0 : w.cell? (a1.add q) = some (.int .i64 p) := hcell q _ (by rw [List.getElem?_map, hpk]; rfl)
          have hab1' : (a1.add q).block < w.heap.size := by rw [block_of_add]; exact hab1
          have HC0 := Lib.hid hc0
          have HUP := Lib.hid hup
          have CS := Lib.hid (fun w => rsays_any j hj8 d w hd16)
          clear hv2 hv4 hcell hdk hpk hkl hkp hd hp hc0 hstep hup
          by_cases hb : d.n.testBit j = true
          · have CO := Lib.hid (fun w => rone_any j hj8 (ovk j base 255 T) d.s w)
            have HO : Hid (ovk (j + 1) base 255 T = put1 j (ovk j base 255 T) d.s) := by
              show _ = _
              rw [mix_step j hj8, HT.out, HUP.out, put1_over_yes j hj8 _ _ d hb]
            rw [hb] at CS
            clear hb hd16 q1 q2
            go_wp2_with (refine ldDIf (by kernel_rfl) (.tmp 23) rfl _ rfl d (ha ▸ hL) ?_)
            refine (CS.out _).mono ?_
            rintro e w5 ⟨rfl, b5⟩
            have b15 := below_seq beli b5
            have L9 := H9.out.keep (S := fun _ => False) (Mod.of_below b15) id
            have L8 := H8.out.keep (S := fun _ => False) (Mod.of_below b15) id
            have hL5 := hL.below b5
            go_wp2_with fail
            refine region_tail (by kernel_rfl) (fun W => Below w5.heap.size w5 W) (below_drewN (Below.refl _ _) 1) 8 (by rfl) (by kernel_rfl) (by kernel_rfl) (fun R hR => ?_)
            refine AllS.take (i := 0) (v := .agg (ovk j base 255 T).cells) (by rw [List.getElem?_toArray]; rfl) (by kernel_rfl) (by kernel_rfl) (by kernel_rfl) (KeepsIf.read (by rfl) (fun W hSw => ?_)) ?_
            · (try dsimp only at hSw)
              exact rdS (.tmp 9) rfl _ rfl _ (L9.keep (S := fun _ => False) (Mod.of_below hSw) id).lies
            (try simp only [Act.put, List.setIfInBounds_toArray, List.set_cons_zero, List.set_cons_succ])
            refine AllS.take (i := 1) (v := ?_) (by rw [List.getElem?_toArray]; rfl) (by kernel_rfl) (by kernel_rfl) (by kernel_rfl) (KeepsIf.read (by rfl) ?_) ?_
            rotate_left
            · intro W hSw
              (try dsimp only at hSw)
              go_simp
              (try with_reducible rfl)
            rotate_left
            (try simp only [Act.put, List.setIfInBounds_toArray, List.set_cons_zero, List.set_cons_succ])
            refine AllS.take (i := 2) (v := ?_) (by rw [List.getElem?_toArray]; rfl) (by kernel_rfl) (by kernel_rfl) (by kernel_rfl) (KeepsIf.read (by rfl) ?_) ?_
            rotate_left
            · intro W hSw
              (try dsimp only at hSw)
              go_simp
              (try with_reducible rfl)
            rotate_left
            (try simp only [Act.put, List.setIfInBounds_toArray, List.set_cons_zero, List.set_cons_succ])
            refine AllS.take (i := 3) (v := ?_) (by rw [List.getElem?_toArray]; rfl) (by kernel_rfl) (by kernel_rfl) (by kernel_rfl) (KeepsIf.read (by rfl) ?_) ?_
            rotate_left
            · intro W hSw
              (try dsimp only at hSw)
              go_simp
              (try with_reducible rfl)
            rotate_left
            (try simp only [Act.put, List.setIfInBounds_toArray, List.set_cons_zero, List.set_cons_succ])
            refine AllS.take (i := 4) (v := ?_) (by rw [List.getElem?_toArray]; rfl) (by kernel_rfl) (by kernel_rfl) (by kernel_rfl) (KeepsIf.read (by rfl) ?_) ?_
            rotate_left
            · intro W hSw
              (try dsimp only at hSw)
              go_simp
              (try with_reducible rfl)
            rotate_left
            (try simp only [Act.put, List.setIfInBounds_toArray, List.set_cons_zero, List.set_cons_succ])
            refine AllS.take (i := 5) (v := .agg d.s.cells) (by rw [List.getElem?_toArray]; rfl) (by kernel_rfl) (by kernel_rfl) (by kernel_rfl) (KeepsIf.read (by rfl) (fun W hSw => ?_)) ?_
            · (try dsimp only at hSw)
              exact rdS (.tmp 39) rfl _ rfl d.s (hL5.below hSw).sub
            (try simp only [Act.put, List.setIfInBounds_toArray, List.set_cons_zero, List.set_cons_succ])
            refine AllS.take (i := 6) (v := ?_) (by rw [List.getElem?_toArray]; rfl) (by kernel_rfl) (by kernel_rfl) (by kernel_rfl) (KeepsIf.read (by rfl) ?_) ?_
            rotate_left
            · intro W hSw
              (try dsimp only at hSw)
              go_simp
              (try with_reducible rfl)
            rotate_left
            (try simp only [Act.put, List.setIfInBounds_toArray, List.set_cons_zero, List.set_cons_succ])
            refine AllS.take (i := 7) (v := .agg (put1 j (ovk j base 255 T) d.s).cells) (by rw [List.getElem?_toArray]; rfl) (by kernel_rfl) (by kernel_rfl) (by kernel_rfl) (KeepsIf.call 25 #[.agg (ovk j base 255 T).cells, .agg d.s.cells, .int .i64 (j : Int)] (by kernel_rfl) (fun W => ?_) (fun W hSw => ?_)) ?_
            · go_simp
            · exact (CO.out W).mono (fun e w' h => ⟨h.1, below_seq hSw h.2⟩)
            (try simp only [Act.put, List.setIfInBounds_toArray, List.set_cons_zero, List.set_cons_succ])
            refine AllS.done (by kernel_rfl) (hR.out _ ?_) _
            clear hR R
            intro w6 b6
            refine wpOp_of_wp (by rw [List.getElem?_toArray]; rfl) rfl ?_
            have M9 := L9.keep (S := fun _ => False) (Mod.of_below b6) id
            have M8 := L8.keep (S := fun _ => False) (Mod.of_below b6) id
            have b16 := below_seq b15 b6
            refine wp_storeL 23 (.tmp 9) (.tmp 42) rfl rfl g9 rfl (put1 j (ovk j base 255 T) d.s).cells rfl 23 _ M9 iS rfl (one23 _) ?_
            intro w7 m7 B7
            go_wp2_with fail
            go_roundg (8 - (j + 1))
            case measure => omega
            case rel => exact ⟨j + 1, by go_num, by omega, rfl, belo.trans ((b16.mono hrs).trans (m7.below (Nat.le_trans hrs b16.size) (fun k hk => by omega))), M8.keep m7 (by omega), by rw [HO.out]; exact B7⟩
          · have hb2 := Bool.eq_false_iff.2 hb
            have HN : Hid (∀ X, put1 j X T = put1 j X (upV base LL p)) := fun X => by rw [HT.out, HUP.out, put1_over_no j hj8 _ _ d hb2]
            rw [hb2] at CS
            clear hb hb2 hd16
            go_wp2_with (refine ldDIf (by kernel_rfl) (.tmp 23) rfl _ rfl d (ha ▸ hL) ?_)
            refine (CS.out _).mono ?_
            rintro e w5 ⟨rfl, b5⟩
            have b15 := below_seq beli b5
            have cp : w5.cell? (a1.add q) = some (.int .i64 p) := ((belo.trans (b15.mono hrs)).cell hab1').trans HC0.out
            go_wp2_with fail
            go_roundg ((p + 1).toNat)
            case measure => omega
            case rel => exact ⟨p, rfl, by omega, by omega, rfl, b15, HN⟩
        · obtain rfl : z = -1 := by omega
          have HO : Hid (ovk (j + 1) base 255 T = ovk j base 255 T) := by
            show _ = _
            rw [mix_step j hj8, HT.out, hm1.out, mix_base j hj8]
          clear h0 hz1 hz2
          go_wp2_with fail
          go_roundg (8 - (j + 1))
          case measure => omega
          case rel => exact ⟨j + 1, by go_num, by omega, rfl, belo.trans (beli.mono hrs), H8.out.keep (S := fun _ => False) (Mod.of_below beli) id, by rw [HO.out]; exact H9.out.keep (S := fun _ => False) (Mod.of_below beli) id⟩
    · obtain rfl : j = 8 := by omega
      rw [mix_eight] at h9
      clear hj hj8
      go_wp2_with (first
        | (refine ldS rfl (.tmp 9) rfl _ rfl T h9.lies ?_)
        | (refine stS rfl (.tmp 8) (.tmp 43) rfl rfl _ rfl T rfl .zero h8 ?_; intro w6 m6 B6))
      refine bodyPost_ret (v := .agg T.cells) (res_row rfl _ _ g8 23 _ _ rfl B6 uS rfl iS) rfl ⟨rfl, belo.trans (m6.below belo.size (fun k hk => by omega))⟩
end Go.Proofs.Ythdihhfbkfenmaa
