/- Contracts of the document's answers for layer 3 (package stickfulref03): TakeInt, TakeTruth, TakeText. -/
import Derived.Test.YtfhceblmjahgjaaPkT2
namespace Go.Proofs.Ytfhceblmjahgjaa
open Go.ChangeShapes Go.WideShapes Go.ChangeAt Go.RowKit

theorem num_small (q : Pk.Left) (s : ByteArray) (hq : rdCells q s) : (Pk.rNum q).1 < 18446744073709551616 := by
  cases q with
  | none => decide
  | some l =>
    have e : bs s = l := hq
    cases hr : (Pk.rNum (some l)).2 with
    | none => rw [Pk.wayNum.bad l hr]; decide
    | some t => exact (Pk.wayNum.same l _ t (by rw [← e]; exact bs_lt s) (by rw [← hr])).2

theorem left2 {w w3 : World} {q : Pk.Left} {s : ByteArray} (b3 : Below (W2 w q s).heap.size (W2 w q s) w3) :
    Blk w3 (w.heap.size + 1) 39 #[.string ⟨#[]⟩, .bool false] ∧ Below w.heap.size w w3 ∧ w.heap.size + 1 < w3.heap.size := by
  have h2 : Blk w3 (w.heap.size + 1) 39 #[.string ⟨#[]⟩, .bool false] := (W2.res w q s).keep (S := fun _ => False) (Mod.of_below b3) id
  exact ⟨h2, below_seq (W2.below w q s) b3, h2.lt⟩

/-- the result's block, and a second one that has been made beside it -/
theorem end3 {w w3 : World} {g : Nat} {a b c d : Value} (o : Obj) (h : Blk w3 g 39 #[a, b]) (B3 : Below w.heap.size w w3) (hg : w.heap.size ≤ g) :
    Blk (((w3.setCell ⟨g, 0, none⟩ c).setCell ⟨g, 1, none⟩ d).alloc o).drew g 39 #[c, d] ∧ Below w.heap.size w (((w3.setCell ⟨g, 0, none⟩ c).setCell ⟨g, 1, none⟩ d).alloc o).drew := by
  have hb : Below w.heap.size w ((w3.setCell ⟨g, 0, none⟩ c).setCell ⟨g, 1, none⟩ d) := below_two B3 hg
  exact ⟨((two_set h).alloc o).drewN 1, (hb.alloc hb.size o).drew⟩

set_option maxRecDepth 100000 in
set_option maxHeartbeats 2000000 in
theorem takeInt_any (q : Pk.Left) (s : ByteArray) (w : World) (hs : s.size ≤ 1000000000) (hq : rdCells q s) :
    Calls Try.prog 46 #[rowV q s] w (TkPost w (.int .i64 (Pk.rInt q).1) (Pk.rInt q).2) := by
  have C := Lib.hid (fun w => takeNum_any q s w hs hq)
  have hn := num_small q s hq
  have e : Pk.rInt q = (Pk.zag (Pk.rNum q).1, (Pk.rNum q).2) := rfl
  rw [e]
  generalize Pk.rNum q = r at *
  obtain ⟨n, t⟩ := r
  simp only at hn C ⊢
  have HL := Lib.hid (fun w3 => @left2 w w3 q s)
  clear e hq
  obtain ⟨z, hz⟩ : ∃ z, Pk.zag n = z := ⟨_, rfl⟩
  rw [hz]
  unfold Pk.zag at hz
  obtain ⟨m, hm⟩ : ∃ m, n / 2 = m := ⟨_, rfl⟩
  rw [hm] at hz
  have e1 : (n : Int) / 2 = (m : Int) := by omega
  have e1' : IntKind.i64.wrap (m : Int) = (m : Int) := IntWalk.i64_in _ (by omega)
  by_cases h2 : n % 2 = 1
  · rw [if_pos h2] at hz
    have e2 : (n : Int) % 2 = 1 := by omega
    obtain ⟨y, hy⟩ : ∃ y : Int, -(m : Int) = y := ⟨_, rfl⟩
    have e3 : IntKind.i64.wrap (-(m : Int)) = y := by rw [hy]; exact IntWalk.i64_in _ (by omega)
    have e4 : IntKind.i64.wrap (y - 1) = z := by rw [IntWalk.i64_in _ (by omega)]; omega
    clear hz hm h2 hy
    go_enter Try.func46, Try.ntmps46
    go_wp2_with fail
    refine (C.out _).mono ?_
    rintro e w3 ⟨⟨s3, rfl, hq3, hl3⟩, b3⟩
    obtain ⟨hR, hB, hsz⟩ := HL.out w3 b3
    have HR3 := Lib.hid hR
    have B3 := Lib.hid hB
    have q0 : w3.cell? ⟨w.heap.size + 1, 0, none⟩ = some (.string ⟨#[]⟩) := HR3.out.cell 0
    have q1 : w3.cell? ⟨w.heap.size + 1, 1, none⟩ = some (.bool false) := HR3.out.cell 1
    have f0 := HR3.out.frozen 0
    have f1 := HR3.out.frozen 1
    go_wp2_with fail
    go_region
    all_goals
      go_wp2_with fail
      (try simp only [Exit.inBlock, Exit.then])
      refine ⟨rfl, _, res_row rfl _ _ (w.heap.size + 1) (.string s3) (.bool t.isSome) rfl ?_, ?_⟩
      · exact (end3 _ HR3.out B3.out (by omega)).1
      · exact ⟨⟨_, rfl, hq3, hl3⟩, (end3 _ HR3.out B3.out (by omega)).2⟩
  · rw [if_neg h2] at hz
    have e2 : (n : Int) % 2 = 0 := by omega
    obtain rfl : z = (m : Int) := by omega
    clear hz hm h2
    go_enter Try.func46, Try.ntmps46
    go_wp2_with fail
    refine (C.out _).mono ?_
    rintro e w3 ⟨⟨s3, rfl, hq3, hl3⟩, b3⟩
    obtain ⟨hR, hB, hsz⟩ := HL.out w3 b3
    have HR3 := Lib.hid hR
    have B3 := Lib.hid hB
    have q0 : w3.cell? ⟨w.heap.size + 1, 0, none⟩ = some (.string ⟨#[]⟩) := HR3.out.cell 0
    have q1 : w3.cell? ⟨w.heap.size + 1, 1, none⟩ = some (.bool false) := HR3.out.cell 1
    have f0 := HR3.out.frozen 0
    have f1 := HR3.out.frozen 1
    go_wp2_with fail
    go_region
    all_goals
      go_wp2_with fail
      (try simp only [Exit.inBlock, Exit.then])
      refine ⟨rfl, _, res_row rfl _ _ (w.heap.size + 1) (.string s3) (.bool t.isSome) rfl ?_, ?_⟩
      · exact (end3 _ HR3.out B3.out (by omega)).1
      · exact ⟨⟨_, rfl, hq3, hl3⟩, (end3 _ HR3.out B3.out (by omega)).2⟩

set_option maxRecDepth 100000 in
set_option maxHeartbeats 2000000 in
theorem takeTruth_any (q : Pk.Left) (s : ByteArray) (w : World) (hs : s.size ≤ 1000000000) (hq : rdCells q s) :
    Calls Try.prog 47 #[rowV q s] w (TkPost w (.bool (Pk.rTruth q).1) (Pk.rTruth q).2) := by
  have C := Lib.hid (fun w => takeNum_any q s w hs hq)
  have CB := Lib.hid (fun w => bad_any w)
  have hn := num_small q s hq
  have e : Pk.rTruth q = if 1 < (Pk.rNum q).1 then (false, none) else ((Pk.rNum q).1 == 1, (Pk.rNum q).2) := rfl
  rw [e]
  generalize Pk.rNum q = r at *
  obtain ⟨n, t⟩ := r
  simp only at hn C ⊢
  have HL := Lib.hid (fun w3 => @left2 w w3 q s)
  clear e hq
  by_cases h1 : 1 < n
  · rw [if_pos h1]
    go_enter Try.func47, Try.ntmps47
    go_wp2_with fail
    refine (C.out _).mono ?_
    rintro e w3 ⟨⟨s3, rfl, hq3, hl3⟩, b3⟩
    obtain ⟨hR, hB, hsz⟩ := HL.out w3 b3
    have HR3 := Lib.hid hR
    have B3 := Lib.hid hB
    go_wp2_with fail
    refine (CB.out _).mono ?_
    rintro e w4 ⟨rfl, b4⟩
    have HR4 : Hid (Blk w4 (w.heap.size + 1) 39 #[.string ⟨#[]⟩, .bool false]) := (HR3.out.alloc _).keep (S := fun _ => False) (Mod.of_below b4) id
    have B4 : Hid (Below w.heap.size w w4) := below_seq (B3.out.alloc B3.out.size _) b4
    have q0 : w4.cell? ⟨w.heap.size + 1, 0, none⟩ = some (.string ⟨#[]⟩) := HR4.out.cell 0
    have q1 : w4.cell? ⟨w.heap.size + 1, 1, none⟩ = some (.bool false) := HR4.out.cell 1
    have f0 := HR4.out.frozen 0
    have f1 := HR4.out.frozen 1
    go_wp2_with fail
    (try simp only [Exit.inBlock, Exit.then])
    refine ⟨rfl, _, res_row rfl _ _ (w.heap.size + 1) _ _ rfl (two_set HR4.out), ?_⟩
    exact ⟨⟨_, rfl, rfl, by decide⟩, below_two B4.out (by omega)⟩
  · rw [if_neg h1]
    have hz : ((n : Int) == 1) = (n == 1) := by
      rw [Bool.eq_iff_iff]
      simp
      omega
    generalize (n == 1) = b at *
    go_enter Try.func47, Try.ntmps47
    go_wp2_with fail
    refine (C.out _).mono ?_
    rintro e w3 ⟨⟨s3, rfl, hq3, hl3⟩, b3⟩
    obtain ⟨hR, hB, hsz⟩ := HL.out w3 b3
    have HR3 := Lib.hid hR
    have B3 := Lib.hid hB
    have q0 : w3.cell? ⟨w.heap.size + 1, 0, none⟩ = some (.string ⟨#[]⟩) := HR3.out.cell 0
    have q1 : w3.cell? ⟨w.heap.size + 1, 1, none⟩ = some (.bool false) := HR3.out.cell 1
    have f0 := HR3.out.frozen 0
    have f1 := HR3.out.frozen 1
    go_wp2_with fail
    go_region
    all_goals
      go_wp2_with fail
      (try simp only [Exit.inBlock, Exit.then])
      refine ⟨rfl, _, res_row rfl _ _ (w.heap.size + 1) (.string s3) (.bool t.isSome) rfl ?_, ?_⟩
      · exact (end3 _ HR3.out B3.out (by omega)).1
      · exact ⟨⟨_, rfl, hq3, hl3⟩, (end3 _ HR3.out B3.out (by omega)).2⟩

/-- a text of n bytes out of what is left -/
def txOf (n : Nat) : Pk.Left → List Nat × Pk.Left
  | none => ([], none)
  | some t => if t.length < n then ([], none) else (t.take n, some (t.drop n))

/-- a text and a row are returned -/
def TsPost (w : World) (l : List Nat) (q : Pk.Left) (e : Ending) (w' : World) : Prop := (∃ s1 s', e = .returned (.tuple #[.string s1, rowV q s']) ∧ bs s1 = l ∧ s1.size ≤ 1000000000 ∧ rdCells q s' ∧ s'.size ≤ 1000000000) ∧ Below w.heap.size w w'

set_option maxRecDepth 100000 in
set_option maxHeartbeats 2000000 in
theorem takeText_any (q : Pk.Left) (s : ByteArray) (w : World) (hs : s.size ≤ 1000000000) (hq : rdCells q s) :
    Calls Try.prog 48 #[rowV q s] w (TsPost w (Pk.rText q).1 (Pk.rText q).2) := by
  have C := Lib.hid (fun w => takeNum_any q s w hs hq)
  have CB := Lib.hid (fun w => bad_any w)
  have hn := num_small q s hq
  have hbad := Pk.rNum_bad q
  have e : Pk.rText q = txOf (Pk.rNum q).1 (Pk.rNum q).2 := by
    unfold Pk.rText txOf
    cases (Pk.rNum q).2 <;> rfl
  rw [e]
  generalize Pk.rNum q = r at *
  obtain ⟨n, t⟩ := r
  simp only at hn C hbad ⊢
  have HL := Lib.hid (fun w3 => @left2 w w3 q s)
  have HBAD := Lib.hid hbad
  clear e hq hbad
  have fits : Hid (∀ s3 : ByteArray, rdCells t s3 → ¬ s3.size < n → s3.size ≤ 1000000000 → ∃ T1 D1, txOf n t = (T1, D1) ∧ D1.isSome = t.isSome ∧ bs (s3.extract 0 n) = T1 ∧ (s3.extract 0 n).size ≤ 1000000000 ∧ rdCells D1 (s3.extract n s3.size) ∧ (s3.extract n s3.size).size ≤ 1000000000) := by
    intro s3 hc hlt hl
    have e1 : (s3.extract 0 n).size ≤ 1000000000 := by rw [← bs_len, bs_extract, List.drop_zero, List.length_take, bs_len]; omega
    have e2 : bs (s3.extract n s3.size) = (bs s3).drop n := by
      rw [bs_extract, List.take_of_length_le]
      rw [List.length_drop, bs_len]
      omega
    have e3 : (s3.extract n s3.size).size ≤ 1000000000 := by rw [← bs_len, e2, List.length_drop, bs_len]; omega
    cases t with
    | none =>
      have es : s3 = ByteArray.empty := hc
      subst es
      have h0 : n = 0 := HBAD.out rfl
      subst h0
      exact ⟨[], none, rfl, rfl, by rw [bs_extract]; rfl, e1, bs_nil _ (by rw [← bs_len, e2]; rfl), e3⟩
    | some l =>
      have el : bs s3 = l := hc
      subst el
      refine ⟨(bs s3).take n, some ((bs s3).drop n), ?_, rfl, by rw [bs_extract, List.drop_zero, Nat.sub_zero], e1, e2, e3⟩
      exact if_neg (by rw [bs_len]; exact hlt)
  have over : Hid (∀ s3 : ByteArray, rdCells t s3 → s3.size < n → txOf n t = ([], none)) := by
    intro s3 hc hlt
    cases t with
    | none => rfl
    | some l =>
      have el : bs s3 = l := hc
      subst el
      exact if_pos (by rw [bs_len]; exact hlt)
  generalize txOf n t = R at *
  go_enter Try.func48, Try.ntmps48
  go_wp2_with fail
  refine (C.out _).mono ?_
  rintro e w3 ⟨⟨s3, rfl, hq3, hl3⟩, b3⟩
  obtain ⟨hR, hB, hsz⟩ := HL.out w3 b3
  have HR3 := Lib.hid hR
  have B3 := Lib.hid hB
  by_cases hlt : s3.size < n
  · have hltz : (s3.size : Int) < (n : Int) := by omega
    have HO := Lib.hid (over.out s3 hq3 hlt)
    go_wp2_with fail
    refine (CB.out _).mono ?_
    rintro e w4 ⟨rfl, b4⟩
    have HR4 : Hid (Blk w4 (w.heap.size + 1) 39 #[.string ⟨#[]⟩, .bool false]) := (HR3.out.alloc _).keep (S := fun _ => False) (Mod.of_below b4) id
    have B4 : Hid (Below w.heap.size w w4) := below_seq (B3.out.alloc B3.out.size _) b4
    have q0 : w4.cell? ⟨w.heap.size + 1, 0, none⟩ = some (.string ⟨#[]⟩) := HR4.out.cell 0
    have q1 : w4.cell? ⟨w.heap.size + 1, 1, none⟩ = some (.bool false) := HR4.out.cell 1
    have f0 := HR4.out.frozen 0
    have f1 := HR4.out.frozen 1
    go_wp2_with fail
    (try simp only [Exit.inBlock, Exit.then])
    refine ⟨rfl, _, res_row rfl _ _ (w.heap.size + 1) _ _ rfl (two_set HR4.out), ?_⟩
    rw [HO.out]
    exact ⟨⟨_, _, rfl, rfl, by decide, rfl, by decide⟩, below_two B4.out (by omega)⟩
  · have hltz : ¬ (s3.size : Int) < (n : Int) := by omega
    obtain ⟨T1, D1, hR1, hsome, g1, g2, g3, g4⟩ := fits.out s3 hq3 hlt hl3
    have HF := Lib.hid (And.intro hR1 (And.intro hsome (And.intro g1 (And.intro g2 (And.intro g3 g4)))))
    have hns : n ≤ s3.size := by omega
    have hnz : (n : Int) ≤ (s3.size : Int) := by omega
    have q0 : w3.cell? ⟨w.heap.size + 1, 0, none⟩ = some (.string ⟨#[]⟩) := HR3.out.cell 0
    have q1 : w3.cell? ⟨w.heap.size + 1, 1, none⟩ = some (.bool false) := HR3.out.cell 1
    have f0 := HR3.out.frozen 0
    have f1 := HR3.out.frozen 1
    clear hR1 hsome g1 g2 g3 g4
    go_wp2_with fail
    go_region
    all_goals
      go_wp2_with fail
      (try simp only [Exit.inBlock, Exit.then])
      refine ⟨rfl, _, res_row rfl _ _ (w.heap.size + 1) (.string (s3.extract n s3.size)) (.bool t.isSome) rfl ?_, ?_⟩
      · exact (end3 _ HR3.out B3.out (by omega)).1
      · rw [HF.out.1]
        have hv : rowV D1 (s3.extract n s3.size) = .agg #[.string (s3.extract n s3.size), .bool t.isSome] := by unfold rowV; rw [HF.out.2.1]
        refine ⟨⟨s3.extract 0 n, s3.extract n s3.size, ?_, HF.out.2.2.1, HF.out.2.2.2.1, HF.out.2.2.2.2.1, HF.out.2.2.2.2.2⟩, (end3 _ HR3.out B3.out (by omega)).2⟩
        show _ = Ending.returned (.tuple #[.string (s3.extract 0 n), rowV D1 (s3.extract n s3.size)])
        rw [hv]
        rfl
end Go.Proofs.Ytfhceblmjahgjaa
