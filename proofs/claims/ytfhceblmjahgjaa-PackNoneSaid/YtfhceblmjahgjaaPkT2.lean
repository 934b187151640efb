/- Contract of the document's answers for layer 3 (package stickfulref03): TakeNum, whatever the bytes are. -/
import Derived.Test.YtfhceblmjahgjaaPkT1
namespace Go.Proofs.Ytfhceblmjahgjaa
open Go.ChangeShapes Go.WideShapes Go.ChangeAt Go.RowKit

abbrev W2t (w : World) (s : ByteArray) : World := (w.alloc (.cells #[.string s, .bool true] 39)).alloc (.cells #[.string ⟨#[]⟩, .bool false] 39)

/-- what is left in memory behind a call in such a function -/
theorem left3 {w w3 : World} {s : ByteArray} (b3 : Below (W2t w s).heap.size (W2t w s) w3) :
    (w3.cell? ⟨w.heap.size, 0, none⟩ = some (.string s) ∧ w3.cell? ⟨w.heap.size, 1, none⟩ = some (.bool true)) ∧ Blk w3 (w.heap.size + 1) 39 #[.string ⟨#[]⟩, .bool false] ∧ Below w.heap.size w w3 := by
  have h1 : Blk w3 w.heap.size 39 #[.string s, .bool true] := (W2.arg w (some []) s).keep (S := fun _ => False) (Mod.of_below b3) id
  have h2 : Blk w3 (w.heap.size + 1) 39 #[.string ⟨#[]⟩, .bool false] := (W2.res w (some []) s).keep (S := fun _ => False) (Mod.of_below b3) id
  exact ⟨⟨h1.cell 0, h1.cell 1⟩, h2, below_seq (W2.below w (some []) s) b3⟩

theorem left3d {w w3 : World} {s : ByteArray} (b3 : Below (W2t w s).drew.heap.size (W2t w s).drew w3) :
    (w3.cell? ⟨w.heap.size, 0, none⟩ = some (.string s) ∧ w3.cell? ⟨w.heap.size, 1, none⟩ = some (.bool true)) ∧ Blk w3 (w.heap.size + 1) 39 #[.string ⟨#[]⟩, .bool false] ∧ Below w.heap.size w w3 :=
  left3 (w := w) (s := s) ⟨b3.os, b3.tape, b3.output, b3.size, b3.block⟩

set_option maxRecDepth 100000 in
set_option maxHeartbeats 2000000 in
theorem takeNum_short (s : ByteArray) (w : World) (h0 : 0 < s.size) (c : UInt8) (hc : s[0] = c) (hl : 248 ≤ c.toNat) (hm : s.size ≤ c.toNat - 247) :
    Calls Try.prog 55 #[.agg #[.string s, .bool true]] w (TkPost w (.int .u64 0) none) := by
  have C := Lib.hid (fun w => bad_any w)
  have hne := toList_ne s h0
  have hcb := byte_le c
  have hz : (248 : Int) ≤ (c.toNat : Int) := by omega
  have h2 : (s.size : Int) < (c.toNat : Int) - 246 := by omega
  go_enter Try.func55, Try.ntmps55
  go_wp2_with fail
  refine (C.out _).mono ?_
  rintro e w3 ⟨rfl, b3⟩
  obtain ⟨_, hR, hB⟩ := left3 b3
  have HR3 := Lib.hid hR
  have B3 := Lib.hid hB
  have q0 : w3.cell? ⟨w.heap.size + 1, 0, none⟩ = some (.string ⟨#[]⟩) := HR3.out.cell 0
  have q1 : w3.cell? ⟨w.heap.size + 1, 1, none⟩ = some (.bool false) := HR3.out.cell 1
  have f0 := HR3.out.frozen 0
  have f1 := HR3.out.frozen 1
  clear b3 hR hB
  go_wp2_with fail
  (try simp only [Exit.inBlock, Exit.then])
  refine ⟨rfl, _, res_row rfl _ _ (w.heap.size + 1) _ _ rfl (two_set HR3.out), ?_⟩
  exact ⟨⟨_, rfl, rfl, by decide⟩, below_two B3.out (by omega)⟩

set_option maxRecDepth 100000 in
set_option maxHeartbeats 2000000 in
theorem takeNum_low (s : ByteArray) (w : World) (h0 : 0 < s.size) (hs : s.size ≤ 1000000000) (c : UInt8) (hc : s[0] = c) (hl : c.toNat < 248) :
    Calls Try.prog 55 #[.agg #[.string s, .bool true]] w (TkPost w (.int .u64 (c.toNat : Nat)) (some ((bs s).drop 1))) := by
  have hne := toList_ne s h0
  have hcb := byte_le c
  have hz : ¬ (248 : Int) ≤ (c.toNat : Int) := by omega
  have h2 : ¬ (s.size : Int) < 1 := by omega
  have hen : Pk.num c.toNat = [c.toNat] := by unfold Pk.num; rw [if_pos hl]
  have HEQ : Hid (∀ sN, bs sN = Pk.num c.toNat → sN = s.extract 0 1) := fun sN h => bs_inj _ _ (by
    have hd := bs_drop s 0 h0
    rw [hc, List.drop_zero] at hd
    rw [h, hen, bs_extract, hd]
    rfl)
  have HE : Hid (bs (s.extract 1 s.size) = (bs s).drop 1) := by
    show _ = _
    rw [bs_extract, List.take_of_length_le]
    rw [List.length_drop, bs_len]
    omega
  have HES : Hid ((s.extract 1 s.size).size ≤ 1000000000) := by
    show _ ≤ _
    rw [← bs_len, HE.out, List.length_drop, bs_len]
    omega
  have h1s : 1 ≤ s.size := h0
  have h1z : (1 : Int) ≤ (s.size : Int) := by omega
  clear hen
  go_enter Try.func55, Try.ntmps55
  go_wp2_with fail
  refine wp_loop_rounds 1 ?_
  rw [rounds_succ]
  go_wp2_with fail
  go_region_held3 (fun w' => w'.cell? ⟨w.heap.size, 0, none⟩ = some (.string s)) (go_keep) (first
    | (go_at_call 44; refine (fnum_any c.toNat _ (by omega)).mono ?_; rintro e w3 ⟨⟨sN, rfl, hsN⟩, b3⟩; obtain rfl := HEQ.out sN hsN; clear hsN; obtain ⟨⟨j0, j1⟩, hR, hB⟩ := left3d (w := w) (s := s) b3; have HR3 := Lib.hid hR; have B3 := Lib.hid hB))
  all_goals
    have q0 : w3.cell? ⟨w.heap.size + 1, 0, none⟩ = some (.string ⟨#[]⟩) := HR3.out.cell 0
    have q1 : w3.cell? ⟨w.heap.size + 1, 1, none⟩ = some (.bool false) := HR3.out.cell 1
    have f0 := HR3.out.frozen 0
    have f1 := HR3.out.frozen 1
    go_wp2_with fail
    go_region
  all_goals
    go_wp2_with fail
    (try simp only [Exit.inBlock, Exit.then])
    refine ⟨rfl, _, res_row rfl _ _ (w.heap.size + 1) (.string (s.extract 1 s.size)) (.bool true) rfl ?_, ?_⟩
    · first | exact two_set (HR3.out.drewN 1) | exact (two_set HR3.out).drewN 1
    · first | exact ⟨⟨_, rfl, HE.out, HES.out⟩, below_two (B3.out.drew) (by omega)⟩ | exact ⟨⟨_, rfl, HE.out, HES.out⟩, (below_two B3.out (by omega)).drew⟩

theorem drop1_snoc (s : ByteArray) (i : Nat) (h1 : 1 ≤ i) (hi : i < s.size) : ((bs s).take (i + 1)).drop 1 = ((bs s).take i).drop 1 ++ [s[i].toNat] := by
  have hl : i < (bs s).length := by rw [bs_len]; exact hi
  rw [List.take_succ_eq_append_getElem hl, List.drop_append_of_le_length (by rw [List.length_take]; omega)]
  congr 2
  have := bs_get s i hi
  rw [List.getElem?_eq_getElem hl] at this
  exact Option.some.inj this

set_option maxRecDepth 100000 in
set_option maxHeartbeats 4000000 in
theorem takeNum_high (s : ByteArray) (w : World) (hs : s.size ≤ 1000000000) (k : Nat) (h2 : 2 ≤ k) (h9 : k ≤ 9) (h0 : 0 < s.size) (c : UInt8) (hc : s[0] = c) (hck : c.toNat = 246 + k) (hk : k ≤ s.size) (V : Nat) (hV : Pk.val (((bs s).take k).drop 1) = V) :
    Calls Try.prog 55 #[.agg #[.string s, .bool true]] w (TkPost w (.int .u64 (if Pk.num V = (bs s).take k then V else 0 : Nat)) (if Pk.num V = (bs s).take k then some ((bs s).drop k) else none)) := by
  have C := Lib.hid (fun w => bad_any w)
  have hne := toList_ne s h0
  have hcb := byte_le c
  have hz : (248 : Int) ≤ (c.toNat : Int) := by omega
  have he : (c.toNat : Int) - 246 = (k : Int) := by omega
  have h3 : ¬ (s.size : Int) < (k : Int) := by omega
  have hk1 : ((k : Int) == 1) = false := beq_eq_false_iff_ne.2 (by omega)
  have HB : Hid (∀ i, i ≤ k → Pk.val (((bs s).take i).drop 1) < 256 ^ (i - 1)) := fun i hi => by
    have h := Pk.val_lt (((bs s).take i).drop 1) (fun b hb => bs_lt s b (List.mem_of_mem_take (List.mem_of_mem_drop hb)))
    have hl : (((bs s).take i).drop 1).length = i - 1 := by rw [List.length_drop, List.length_take, bs_len]; omega
    rwa [hl] at h
  have hV64 : V < 18446744073709551616 := by
    have := HB.out k (Nat.le_refl _)
    rw [hV] at this
    exact Nat.lt_of_lt_of_le this (Nat.le_trans (Nat.pow_le_pow_right (by omega) (by omega : k - 1 ≤ 8)) (by decide))
  have HV := Lib.hid hV
  have HE : Hid (bs (s.extract k s.size) = (bs s).drop k) := by
    show _ = _
    rw [bs_extract, List.take_of_length_le]
    rw [List.length_drop, bs_len]
    omega
  have HES : Hid ((s.extract k s.size).size ≤ 1000000000) := by
    show _ ≤ _
    rw [← bs_len, HE.out, List.length_drop, bs_len]
    omega
  have HT : Hid (bs (s.extract 0 k) = (bs s).take k) := by
    show _ = _
    rw [bs_extract, List.drop_zero, Nat.sub_zero]
  clear hck hV
  by_cases hq : Pk.num V = (bs s).take k
  · rw [if_pos hq, if_pos hq]
    have HEQ : Hid (∀ sN, bs sN = Pk.num V → sN = s.extract 0 k) := fun sN h => bs_inj _ _ (by rw [h, hq, HT.out])
    clear hq
    go_enter Try.func55, Try.ntmps55
    go_wp2_with fail
    go_loopg [5, 6] (k - 1) (fun g s5 s6 wx => W2t w s = wx ∧ ∃ (i x : Nat), s5 = .int .u64 x ∧ s6 = .int .i64 i ∧ 1 ≤ i ∧ i + g = k ∧ Hid (x = Pk.val (((bs s).take i).drop 1)))
    case atStart =>
      refine ⟨rfl, 1, 0, rfl, rfl, Nat.le_refl _, by omega, ?_⟩
      show 0 = _
      rw [List.drop_eq_nil_of_le (by rw [List.length_take]; omega)]
      rfl
    case round =>
      obtain ⟨rfl, i, x, rfl, rfl, hi1, hik, HX⟩ := hrel
      by_cases hlt : i < k
      · have hb := HB.out i (by omega)
        rw [← HX.out] at hb
        have hx7 : x < 72057594037927936 := Nat.lt_of_lt_of_le hb (Nat.le_trans (Nat.pow_le_pow_right (by omega) (by omega : i - 1 ≤ 7)) (by decide))
        have his : i < s.size := by omega
        obtain ⟨d, hd⟩ : ∃ d : UInt8, s[i] = d := ⟨_, rfl⟩
        have hdb := byte_le d
        have hisz : (i : Int) < (s.size : Int) := by omega
        have hltz : (i : Int) < (k : Int) := by omega
        have HN : Hid (256 * x + d.toNat = Pk.val (((bs s).take (i + 1)).drop 1)) := by
          show _ = _
          rw [drop1_snoc s i hi1 his, Pk.val_snoc, ← HX.out, hd]
        clear hb
        go_wp2_with fail
        go_roundg (k - (i + 1))
        case measure => omega
        case rel => exact ⟨rfl, i + 1, 256 * x + d.toNat, by first | rfl | exact congrArg (Value.int .u64) (by omega), by go_num, by omega, by omega, HN.out⟩
      · obtain rfl : i = k := by omega
        obtain rfl : x = V := HX.out.trans HV.out
        go_wp2_with fail
        go_region_held3 (fun w' => w'.cell? ⟨w.heap.size, 0, none⟩ = some (.string s)) (go_keep) (first
          | (go_at_call 44; refine (fnum_any x _ hV64).mono ?_; rintro e w3 ⟨⟨sN, rfl, hsN⟩, b3⟩; obtain rfl := HEQ.out sN hsN; clear hsN; obtain ⟨⟨j0, j1⟩, hR, hB⟩ := left3d (w := w) (s := s) b3; have HR3 := Lib.hid hR; have B3 := Lib.hid hB))
        all_goals
          have q0 : w3.cell? ⟨w.heap.size + 1, 0, none⟩ = some (.string ⟨#[]⟩) := HR3.out.cell 0
          have q1 : w3.cell? ⟨w.heap.size + 1, 1, none⟩ = some (.bool false) := HR3.out.cell 1
          have f0 := HR3.out.frozen 0
          have f1 := HR3.out.frozen 1
          go_wp2_with fail
          go_region
        all_goals
          go_wp2_with fail
          (try simp only [Exit.inBlock, Exit.then])
          refine ⟨rfl, _, res_row rfl _ _ (w.heap.size + 1) (.string (s.extract i s.size)) (.bool true) rfl ?_, ?_⟩
          · first | exact two_set (HR3.out.drewN 1) | exact (two_set HR3.out).drewN 1
          · first | exact ⟨⟨_, rfl, HE.out, HES.out⟩, below_two (B3.out.drew) (by omega)⟩ | exact ⟨⟨_, rfl, HE.out, HES.out⟩, (below_two B3.out (by omega)).drew⟩
  · rw [if_neg hq, if_neg hq]
    have HNE : Hid (∀ sN, bs sN = Pk.num V → ¬ sN.toList = (s.extract 0 k).toList) := fun sN h e => hq (by
      rw [← h, ← HT.out]
      unfold bs
      rw [← ByteArray.toList_eq, ← ByteArray.toList_eq, e])
    clear hq
    go_enter Try.func55, Try.ntmps55
    go_wp2_with fail
    go_loopg [5, 6] (k - 1) (fun g s5 s6 wx => W2t w s = wx ∧ ∃ (i x : Nat), s5 = .int .u64 x ∧ s6 = .int .i64 i ∧ 1 ≤ i ∧ i + g = k ∧ Hid (x = Pk.val (((bs s).take i).drop 1)))
    case atStart =>
      refine ⟨rfl, 1, 0, rfl, rfl, Nat.le_refl _, by omega, ?_⟩
      show 0 = _
      rw [List.drop_eq_nil_of_le (by rw [List.length_take]; omega)]
      rfl
    case round =>
      obtain ⟨rfl, i, x, rfl, rfl, hi1, hik, HX⟩ := hrel
      by_cases hlt : i < k
      · have hb := HB.out i (by omega)
        rw [← HX.out] at hb
        have hx7 : x < 72057594037927936 := Nat.lt_of_lt_of_le hb (Nat.le_trans (Nat.pow_le_pow_right (by omega) (by omega : i - 1 ≤ 7)) (by decide))
        have his : i < s.size := by omega
        obtain ⟨d, hd⟩ : ∃ d : UInt8, s[i] = d := ⟨_, rfl⟩
        have hdb := byte_le d
        have hisz : (i : Int) < (s.size : Int) := by omega
        have hltz : (i : Int) < (k : Int) := by omega
        have HN : Hid (256 * x + d.toNat = Pk.val (((bs s).take (i + 1)).drop 1)) := by
          show _ = _
          rw [drop1_snoc s i hi1 his, Pk.val_snoc, ← HX.out, hd]
        clear hb
        go_wp2_with fail
        go_roundg (k - (i + 1))
        case measure => omega
        case rel => exact ⟨rfl, i + 1, 256 * x + d.toNat, by first | rfl | exact congrArg (Value.int .u64) (by omega), by go_num, by omega, by omega, HN.out⟩
      · obtain rfl : i = k := by omega
        obtain rfl : x = V := HX.out.trans HV.out
        go_wp2_with fail
        go_region_held3 (fun w' => w'.cell? ⟨w.heap.size, 0, none⟩ = some (.string s)) (go_keep) (first
          | (go_at_call 44; refine (fnum_any x _ hV64).mono ?_; rintro e w3 ⟨⟨sN, rfl, hsN⟩, b3⟩; have n1 := HNE.out sN hsN; have n2 : (sN.toList == (s.extract 0 i).toList) = false := (by simpa using n1); obtain ⟨⟨j0, j1⟩, hR, hB⟩ := left3d (w := w) (s := s) b3; have HR3 := Lib.hid hR; have B3 := Lib.hid hB))
        all_goals
          clear hsN
          go_wp2_with fail
          refine (C.out _).mono ?_
          rintro e w4 ⟨rfl, b4⟩
          have HR4 : Hid (Blk w4 (w.heap.size + 1) 39 #[.string ⟨#[]⟩, .bool false]) := HR3.out.keep (S := fun _ => False) (Mod.of_below b4) id
          have B4 : Hid (Below w.heap.size w w4) := below_seq B3.out b4
          have q0 : w4.cell? ⟨w.heap.size + 1, 0, none⟩ = some (.string ⟨#[]⟩) := HR4.out.cell 0
          have q1 : w4.cell? ⟨w.heap.size + 1, 1, none⟩ = some (.bool false) := HR4.out.cell 1
          have f0 := HR4.out.frozen 0
          have f1 := HR4.out.frozen 1
          go_wp2_with fail
          (try simp only [Exit.inBlock, Exit.then])
          refine ⟨rfl, _, res_row rfl _ _ (w.heap.size + 1) _ _ rfl (two_set HR4.out), ?_⟩
          exact ⟨⟨_, rfl, rfl, by decide⟩, below_two B4.out (by omega)⟩

theorem takeNum_any (q : Pk.Left) (s : ByteArray) (w : World) (hs : s.size ≤ 1000000000) (hq : rdCells q s) :
    Calls Try.prog 55 #[rowV q s] w (TkPost w (.int .u64 ((Pk.rNum q).1 : Nat)) (Pk.rNum q).2) := by
  cases q with
  | none => exact takeNum_bad none s w (.inl rfl) hq
  | some l =>
    have hl : bs s = l := hq
    subst hl
    rcases Nat.eq_zero_or_pos s.size with h0 | h0
    · have e : bs s = [] := List.length_eq_zero_iff.1 (by rw [bs_len]; exact h0)
      have := takeNum_bad (some (bs s)) s w (.inr h0) hq
      rw [e] at this ⊢
      exact this
    · obtain ⟨c, hc⟩ : ∃ c : UInt8, s[0] = c := ⟨_, rfl⟩
      have hcb := byte_le c
      have hd := bs_drop s 0 h0
      rw [List.drop_zero, hc] at hd
      rw [Pk.rNum_numOf]
      by_cases h1 : c.toNat < 248
      · have e := Pk.numOf_low c.toNat ((bs s).drop 1) h1
        rw [← hd] at e
        rw [e]
        exact takeNum_low s w h0 hs c hc h1
      · by_cases h2 : s.size ≤ c.toNat - 247
        · have hlen : ((bs s).drop 1).length < c.toNat - 247 := by rw [List.length_drop, bs_len]; omega
          have e := Pk.numOf_short c.toNat ((bs s).drop 1) (by omega) hlen
          rw [← hd] at e
          rw [e]
          exact takeNum_short s w h0 c hc (by omega) h2
        · obtain ⟨m, hm⟩ : ∃ m, c.toNat = 247 + m := ⟨c.toNat - 247, by omega⟩
          have hbl : (((bs s).drop 1).take m).length = m := by rw [List.length_take, List.length_drop, bs_len]; omega
          have hblt : ∀ b ∈ ((bs s).drop 1).take m, b < 256 := fun b hb => bs_lt s b (List.mem_of_mem_drop (List.mem_of_mem_take hb))
          have e : bs s = (247 + m) :: (((bs s).drop 1).take m ++ ((bs s).drop 1).drop m) := by
            rw [List.take_append_drop, ← hm]
            exact hd
          have hh := Pk.numOf_high m (((bs s).drop 1).take m) (((bs s).drop 1).drop m) hbl (by omega) hblt
          rw [← e] at hh
          have et : (bs s).take (m + 1) = (247 + m) :: ((bs s).drop 1).take m := by
            conv => lhs; rw [e]
            rw [List.take_succ_cons, List.take_left' hbl]
          have ev : ((bs s).take (m + 1)).drop 1 = ((bs s).drop 1).take m := by rw [et]; rfl
          have hT := takeNum_high s w hs (m + 1) (by omega) (by omega) h0 c hc (by omega) (by omega) _ rfl
          rw [ev, et] at hT
          rw [hh]
          by_cases hf : Pk.fol (Pk.val (((bs s).drop 1).take m)) = m
          · have hn := (Pk.num_fol m _ hbl (by omega) hblt).2 hf
            rw [if_pos hn, if_pos hn] at hT
            rw [if_pos hf]
            simp only
            rw [if_neg (by omega), Nat.add_comm 1 m]
            exact hT
          · have hn : ¬ Pk.num (Pk.val (((bs s).drop 1).take m)) = (247 + m) :: ((bs s).drop 1).take m := fun h => hf ((Pk.num_fol m _ hbl (by omega) hblt).1 h)
            rw [if_neg hn, if_neg hn] at hT
            rw [if_neg hf]
            exact hT
end Go.Proofs.Ytfhceblmjahgjaa
