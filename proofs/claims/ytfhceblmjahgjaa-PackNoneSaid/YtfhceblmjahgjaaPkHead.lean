/- Contract of the laws' own 'head' of layer 3: it answers true, and nothing that was there has changed. -/
import Derived.Test.YtfhceblmjahgjaaPkR4
namespace Go.Proofs.Ytfhceblmjahgjaa
open Go.ChangeShapes Go.WideShapes Go.ChangeAt Go.RowKit

theorem num_247 : Pk.num 247 = [247] := by simp [Pk.num]
theorem num_248 : Pk.num 248 = [248, 248] := by simp [Pk.num, Pk.be_pos, Pk.be_zero]
theorem num_255 : Pk.num 255 = [248, 255] := by simp [Pk.num, Pk.be_pos, Pk.be_zero]
theorem num_65536 : Pk.num 65536 = [250, 1, 0, 0] := by simp [Pk.num, Pk.be_pos, Pk.be_zero]
theorem int_m1 : Pk.int (-1) = [1] := by simp [Pk.int, Pk.zig, Pk.num]
theorem int_1 : Pk.int 1 = [2] := by simp [Pk.int, Pk.zig, Pk.num]
theorem int_124 : Pk.int 124 = [248, 248] := by
  have : Pk.zig 124 = 248 := by decide
  rw [Pk.int, this]
  exact num_248
theorem truth_t : Pk.truth true = [1] := by simp [Pk.truth, Pk.num]
theorem text_ab : Pk.text [97, 98] = [2, 97, 98] := by simp [Pk.text, Pk.num]
theorem ints_11 : Pk.list Pk.int [1, -1] = [2, 2, 1] := by simp [Pk.list, int_1, int_m1, Pk.num]
theorem texts_0 : Pk.list txt [] = [0] := by simp [Pk.list, Pk.num]
theorem read_f8 : Pk.rNum (some [248, 7]) = (0, none) := by
  have : Pk.take [248, 7] = none := by simp [Pk.take, Pk.size, Pk.val, Pk.num]
  simp [Pk.rNum, this]
theorem read_f9 : Pk.rNum (some [249, 0, 255]) = (0, none) := by
  have : Pk.take [249, 0, 255] = none := by simp [Pk.take, Pk.size, Pk.val, num_255]
  simp [Pk.rNum, this]

theorem rdx_none {w : World} {p : Nat} (h : Rdx w p none) : Rd w p none ByteArray.empty := by
  obtain ⟨s, hs, _⟩ := h
  have e : s = ByteArray.empty := hs.left
  subst e
  exact hs

set_option maxRecDepth 100000 in
set_option maxHeartbeats 4000000 in
theorem head_any (w : World) :
    Calls Try.prog 11 #[] w fun e w' => e = .returned (.bool true) ∧ Below w.heap.size w w' := by
  go_enter Try.func11, Try.ntmps11
  go_wp2_with fail
  refine (newWriter_any _).mono ?_
  rintro e w1 ⟨rfl, hw1⟩
  obtain ⟨p, hp⟩ : ∃ p, w.heap.size = p := ⟨_, rfl⟩
  have B1 : Hid (Below p w w1) := by rw [← hp, hw1]; exact below_alloc _ _
  have H1 : Hid (Wr w1 p (.slice none 0 0) []) := by rw [← hp, hw1]; exact Wr.new w
  have HP := Lib.hid hp
  rw [hp]
  clear hw1 hp
  go_wp2_with fail
  refine (wnum_any p (.slice none 0 0) [] 247 w1 H1.out (by decide) (by simp)).mono ?_
  rintro e w2 ⟨rfl, v2, hw⟩
  have B2 : Hid (Below p w w2) := B1.out.trans (hw.low H1.out (Nat.le_refl _))
  have H2 : Hid (Wr w2 p v2 [247]) := by
    have := hw.wr
    skip
    rw [num_247] at this
    exact this
  clear hw H1 B1
  go_wp2_with fail
  refine (wnum_any p v2 [247] 248 w2 H2.out (by decide) (by simp)).mono ?_
  rintro e w3 ⟨rfl, v3, hw⟩
  have B3 : Hid (Below p w w3) := B2.out.trans (hw.low H2.out (Nat.le_refl _))
  have H3 : Hid (Wr w3 p v3 [247, 248, 248]) := by
    have := hw.wr
    skip
    rw [num_248] at this
    exact this
  clear hw H2 B2
  go_wp2_with fail
  refine (wnum_any p v3 [247, 248, 248] 65536 w3 H3.out (by decide) (by simp)).mono ?_
  rintro e w4 ⟨rfl, v4, hw⟩
  have B4 : Hid (Below p w w4) := B3.out.trans (hw.low H3.out (Nat.le_refl _))
  have H4 : Hid (Wr w4 p v4 [247, 248, 248, 250, 1, 0, 0]) := by
    have := hw.wr
    skip
    rw [num_65536] at this
    exact this
  clear hw H3 B3
  go_wp2_with fail
  refine (wint_any p v4 [247, 248, 248, 250, 1, 0, 0] (-1) w4 H4.out (by unfold Pk.OkI; omega) (by simp)).mono ?_
  rintro e w5 ⟨rfl, v5, hw⟩
  have B5 : Hid (Below p w w5) := B4.out.trans (hw.low H4.out (Nat.le_refl _))
  have H5 : Hid (Wr w5 p v5 [247, 248, 248, 250, 1, 0, 0, 1]) := by
    have := hw.wr
    skip
    rw [int_m1] at this
    exact this
  clear hw H4 B4
  go_wp2_with fail
  refine (wint_any p v5 [247, 248, 248, 250, 1, 0, 0, 1] 124 w5 H5.out (by unfold Pk.OkI; omega) (by simp)).mono ?_
  rintro e w6 ⟨rfl, v6, hw⟩
  have B6 : Hid (Below p w w6) := B5.out.trans (hw.low H5.out (Nat.le_refl _))
  have H6 : Hid (Wr w6 p v6 [247, 248, 248, 250, 1, 0, 0, 1, 248, 248]) := by
    have := hw.wr
    skip
    rw [int_124] at this
    exact this
  clear hw H5 B5
  go_wp2_with fail
  refine (wtruth_any p v6 [247, 248, 248, 250, 1, 0, 0, 1, 248, 248] true w6 H6.out (by simp)).mono ?_
  rintro e w7 ⟨rfl, v7, hw⟩
  have B7 : Hid (Below p w w7) := B6.out.trans (hw.low H6.out (Nat.le_refl _))
  have H7 : Hid (Wr w7 p v7 [247, 248, 248, 250, 1, 0, 0, 1, 248, 248, 1]) := by
    have := hw.wr
    skip
    rw [truth_t] at this
    exact this
  clear hw H6 B6
  go_wp2_with fail
  refine (wtext_any p v7 [247, 248, 248, 250, 1, 0, 0, 1, 248, 248, 1] ⟨#[97, 98]⟩ w7 H7.out (by simp [ByteArray.size])).mono ?_
  rintro e w8 ⟨rfl, v8, hw⟩
  have B8 : Hid (Below p w w8) := B7.out.trans (hw.low H7.out (Nat.le_refl _))
  have H8 : Hid (Wr w8 p v8 [247, 248, 248, 250, 1, 0, 0, 1, 248, 248, 1, 2, 97, 98]) := by
    have := hw.wr
    have e : bs ⟨#[97, 98]⟩ = [97, 98] := rfl
    rw [e, text_ab] at this
    exact this
  clear hw H7 B7
  go_wp2_with fail
  have HA : Hid (Wr (w8.alloc (.cells #[.int .i64 1, .int .i64 (-1)] 2)) p v8 [247, 248, 248, 250, 1, 0, 0, 1, 248, 248, 1, 2, 97, 98]) := H8.out.alloc _
  have HR : Hid (Row (fp p v8) (w8.alloc (.cells #[.int .i64 1, .int .i64 (-1)] 2)) (.slice (some ⟨w8.heap.size, 0, none⟩) 2 2) ([1, -1].map fI)) := by
    refine .inr ⟨⟨w8.heap.size, 0, none⟩, 2, rfl, .inr ⟨by simp, fun hf => ?_⟩, fun j u hj => ?_⟩
    · have := H8.out.fp_lt _ hf
      simp at this
    · match j, hj with
      | 0, hj => simp at hj; subst hj; simp [Addr.add]; rfl
      | 1, hj => simp at hj; subst hj; simp [Addr.add]; rfl
      | (j + 2), hj => simp at hj
  refine (wints_any p v8 [247, 248, 248, 250, 1, 0, 0, 1, 248, 248, 1, 2, 97, 98] _ [1, -1] _ HA.out HR.out (by intro x hx; simp at hx; unfold Pk.OkI; omega) (by simp) (by rw [ints_11]; simp)).mono ?_
  rintro e w9 ⟨rfl, v9, hw⟩
  have B9 : Hid (Below p w w9) := (B8.out.alloc (by have := H8.out.blk.lt; omega) _).trans (hw.low HA.out (Nat.le_refl _))
  have H9 : Hid (Wr w9 p v9 [247, 248, 248, 250, 1, 0, 0, 1, 248, 248, 1, 2, 97, 98, 2, 2, 1]) := by
    have := hw.wr
    rw [ints_11] at this
    exact this
  clear hw H8 B8 HA HR
  go_wp2_with fail
  refine (wtexts_any p v9 [247, 248, 248, 250, 1, 0, 0, 1, 248, 248, 1, 2, 97, 98, 2, 2, 1] (.slice none 0 0) [] w9 H9.out (.inl ⟨rfl, rfl⟩) (by intro x hx; simp at hx) (by simp) (by rw [texts_0]; simp)).mono ?_
  rintro e w10 ⟨rfl, v10, hw⟩
  have B10 : Hid (Below p w w10) := B9.out.trans (hw.low H9.out (Nat.le_refl _))
  have H10 : Hid (Wr w10 p v10 [247, 248, 248, 250, 1, 0, 0, 1, 248, 248, 1, 2, 97, 98, 2, 2, 1, 0]) := by
    have := hw.wr
    rw [texts_0] at this
    exact this
  clear hw H9 B9
  go_wp2_with fail
  refine (newReader_any ⟨#[248, 7]⟩ w10).mono ?_
  rintro e wa ⟨rfl, hwa⟩
  obtain ⟨r, hr⟩ : ∃ r, w10.heap.size = r := ⟨_, rfl⟩
  have hpr : p < r := by rw [← hr]; exact H10.out.blk.lt
  have FN : Hid (∀ k, fp p v10 k → k < r) := fun k hk => by rw [← hr]; exact (H10.out.fp_lt k hk).2
  have BA : Hid (Below p w wa) := by rw [hwa]; exact B10.out.alloc (by omega) _
  have HA : Hid (Wr wa p v10 [247, 248, 248, 250, 1, 0, 0, 1, 248, 248, 1, 2, 97, 98, 2, 2, 1, 0]) := by rw [hwa]; exact H10.out.alloc _
  have RA : Hid (Rdx wa r (some [248, 7])) := by rw [← hr, hwa]; exact ⟨_, Rd.new _ _, by decide⟩
  rw [hr]
  clear hwa hr B10 H10
  go_wp2_with fail
  refine (rnum_any r _ wa RA.out).mono ?_
  rw [read_f8]
  rintro e wb ⟨rfl, hx, hm⟩
  have BB : Hid (Below p w wb) := BA.out.trans (hm.below (by have := HA.out.blk.lt; omega) (fun k hk => by have : k = r := hk; omega))
  have HB : Hid (Wr wb p v10 [247, 248, 248, 250, 1, 0, 0, 1, 248, 248, 1, 2, 97, 98, 2, 2, 1, 0]) := HA.out.keep hm (fun k hk => by have := FN.out k hk; show ¬ k = r; omega)
  have RB := Lib.hid (rdx_none hx)
  clear hx hm BA HA RA
  go_wp2_with fail
  refine (newReader_any ⟨#[249, 0, 255]⟩ wb).mono ?_
  rintro e wc ⟨rfl, hwc⟩
  obtain ⟨r2, hr2⟩ : ∃ r2, wb.heap.size = r2 := ⟨_, rfl⟩
  have hrr : r < r2 := by rw [← hr2]; exact RB.out.blk.lt
  have BC : Hid (Below p w wc) := by rw [hwc]; exact BB.out.alloc (by omega) _
  have HC : Hid (Wr wc p v10 [247, 248, 248, 250, 1, 0, 0, 1, 248, 248, 1, 2, 97, 98, 2, 2, 1, 0]) := by rw [hwc]; exact HB.out.alloc _
  have RC : Hid (Rd wc r none ByteArray.empty) := by rw [hwc]; exact RB.out.alloc _
  have SC : Hid (Rdx wc r2 (some [249, 0, 255])) := by rw [← hr2, hwc]; exact ⟨_, Rd.new _ _, by decide⟩
  rw [hr2]
  clear hwc hr2 BB HB RB
  go_wp2_with fail
  refine (rnum_any r2 _ wc SC.out).mono ?_
  rw [read_f9]
  rintro e wd ⟨rfl, hx, hm⟩
  have BD : Hid (Below p w wd) := BC.out.trans (hm.below (by have := HC.out.blk.lt; omega) (fun k hk => by have : k = r2 := hk; omega))
  have HD : Hid (Wr wd p v10 [247, 248, 248, 250, 1, 0, 0, 1, 248, 248, 1, 2, 97, 98, 2, 2, 1, 0]) := HC.out.keep hm (fun k hk => by have := FN.out k hk; show ¬ k = r2; omega)
  have RD : Hid (Rd wd r none ByteArray.empty) := RC.out.keep hm (by show ¬ r = r2; omega)
  have SD := Lib.hid (rdx_none hx)
  have hrd : r2 < wd.heap.size := SD.out.blk.lt
  clear hx hm BC HC RC SC
  go_wp2_with fail
  refine (wbytes_any p v10 _ wd HD.out (by decide)).mono ?_
  rintro e w' ⟨⟨s, rfl, hs⟩, rfl⟩
  obtain rfl : s = ⟨#[247, 248, 248, 250, 1, 0, 0, 1, 248, 248, 1, 2, 97, 98, 2, 2, 1, 0]⟩ := bs_inj _ _ (hs.trans rfl)
  clear hs
  go_wp2_with fail
  refine (rfine_any r _ _ wd RD.out).mono ?_
  rintro e w' ⟨rfl, rfl⟩
  go_wp2_with fail
  refine (rleft_any r _ _ wd RD.out).mono ?_
  rintro e w' ⟨rfl, rfl⟩
  go_wp2_with fail
  refine (rfine_any r2 _ _ wd SD.out).mono ?_
  rintro e w' ⟨rfl, rfl⟩
  go_wp2_with fail
  refine (newReader_any ⟨#[]⟩ wd).mono ?_
  rintro e we ⟨rfl, hwe⟩
  have RE : Hid (Rd we wd.heap.size (some []) ⟨#[]⟩) := by rw [hwe]; exact Rd.new _ _
  have BE : Hid (Below p w we) := by rw [hwe]; exact BD.out.alloc (by omega) _
  have hze : p < we.heap.size := by rw [hwe]; simp; omega
  clear hwe BD
  go_wp2_with fail
  refine (rend_any _ _ _ we RE.out).mono ?_
  rintro e w' ⟨rfl, rfl⟩
  go_wp2_with fail
  refine (newReader_any ⟨#[97]⟩ we).mono ?_
  rintro e wf ⟨rfl, hwf⟩
  have RF : Hid (Rd wf we.heap.size (some [97]) ⟨#[97]⟩) := by rw [hwf]; exact Rd.new _ _
  have BF : Hid (Below p w wf) := by rw [hwf]; exact BE.out.alloc (by omega) _
  clear hwf BE
  go_wp2_with fail
  refine (rend_any _ _ _ wf RF.out).mono ?_
  rintro e w' ⟨rfl, rfl⟩
  go_wp2_with fail
  go_ret
  refine ⟨rfl, ?_⟩
  rw [HP.out]
  exact BF.out
end Go.Proofs.Ytfhceblmjahgjaa
