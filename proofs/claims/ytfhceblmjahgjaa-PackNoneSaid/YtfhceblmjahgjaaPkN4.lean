/- Contract of the laws' own 'reads' at a reader that is none and a row without bytes that is not fine: it answers true, and changes nothing. -/
import Derived.Test.YtfhceblmjahgjaaPkN3
import Derived.Test.YtfhceblmjahgjaaPkReads
namespace Go.Proofs.Ytfhceblmjahgjaa
open Go.ChangeShapes Go.WideShapes Go.ChangeAt Go.RowKit

/-- the row without bytes that is not fine -/
abbrev R0 : Value := .agg #[.string ⟨#[]⟩, .bool false]
theorem row_nil {S T : Nat → Prop} {w W : World} {v : Value} (h : Row S w v []) : Row T W v [] := by
  rcases h with ⟨h, _⟩ | ⟨a, cap, h, _, _⟩
  · exact .inl ⟨h, rfl⟩
  · exact .inr ⟨a, cap, h, .inl rfl, fun j u hu => by simp at hu⟩
theorem rd_none {s : ByteArray} (h : rdCells none s) : s = ⟨#[]⟩ := h
theorem tk0_num (w : World) : Calls Try.prog 55 #[R0] w fun e w' => e = .returned (.tuple #[.int .u64 0, R0]) ∧ Below w.heap.size w w' := by
  refine (takeNum_any none ⟨#[]⟩ w (by decide) rfl).mono ?_
  rintro e w' ⟨⟨s', rfl, hq, _⟩, b⟩
  obtain rfl := rd_none hq
  exact ⟨rfl, b⟩
theorem tk0_int (w : World) : Calls Try.prog 46 #[R0] w fun e w' => e = .returned (.tuple #[.int .i64 0, R0]) ∧ Below w.heap.size w w' := by
  refine (takeInt_any none ⟨#[]⟩ w (by decide) rfl).mono ?_
  rintro e w' ⟨⟨s', rfl, hq, _⟩, b⟩
  obtain rfl := rd_none hq
  exact ⟨rfl, b⟩
theorem tk0_truth (w : World) : Calls Try.prog 47 #[R0] w fun e w' => e = .returned (.tuple #[.bool false, R0]) ∧ Below w.heap.size w w' := by
  refine (takeTruth_any none ⟨#[]⟩ w (by decide) rfl).mono ?_
  rintro e w' ⟨⟨s', rfl, hq, _⟩, b⟩
  obtain rfl := rd_none hq
  exact ⟨rfl, b⟩
theorem tk0_text (w : World) : Calls Try.prog 48 #[R0] w fun e w' => e = .returned (.tuple #[.string ⟨#[]⟩, R0]) ∧ Below w.heap.size w w' := by
  refine (takeText_any none ⟨#[]⟩ w (by decide) rfl).mono ?_
  rintro e w' ⟨⟨s1, s', rfl, h1, _, hq, _⟩, b⟩
  obtain rfl := rd_none hq
  have : s1 = ⟨#[]⟩ := bs_inj _ _ h1
  subst this
  exact ⟨rfl, b⟩
theorem tk0_nums (w : World) : Calls Try.prog 49 #[R0] w fun e w' => (∃ v, e = .returned (.tuple #[v, R0]) ∧ Row (fun k => k < w.heap.size) w' v (([] : List Nat).map fN)) ∧ Below w.heap.size w w' := by
  refine (takeNums_any none ⟨#[]⟩ w (by decide) rfl).mono ?_
  rintro e w' ⟨⟨v, ys, s', rfl, ho, hy, _, hq, _⟩, b⟩
  obtain rfl := rd_none hq
  have : ys = [] := by cases ys with
    | nil => rfl
    | cons a r => cases hy
  subst this
  exact ⟨⟨v, rfl, Row.of_own ho⟩, b⟩
theorem tk0_ints (w : World) : Calls Try.prog 51 #[R0] w fun e w' => (∃ v, e = .returned (.tuple #[v, R0]) ∧ Row (fun k => k < w.heap.size) w' v (([] : List Int).map fI)) ∧ Below w.heap.size w w' := by
  refine (takeInts_any none ⟨#[]⟩ w (by decide) rfl).mono ?_
  rintro e w' ⟨⟨v, ys, s', rfl, ho, hy, _, hq, _⟩, b⟩
  obtain rfl := rd_none hq
  have : ys = [] := by cases ys with
    | nil => rfl
    | cons a r => cases hy
  subst this
  exact ⟨⟨v, rfl, Row.of_own ho⟩, b⟩
theorem tk0_texts (w : World) : Calls Try.prog 53 #[R0] w fun e w' => (∃ v, e = .returned (.tuple #[v, R0]) ∧ Row (fun k => k < w.heap.size) w' v (([] : List ByteArray).map fS)) ∧ Below w.heap.size w w' := by
  refine (takeTexts_any none ⟨#[]⟩ w (by decide) rfl).mono ?_
  rintro e w' ⟨⟨v, ys, s', rfl, ho, hy, _, hq, _⟩, b⟩
  obtain rfl := rd_none hq
  have : ys = [] := by cases ys with
    | nil => rfl
    | cons a r => cases hy
  subst this
  exact ⟨⟨v, rfl, Row.of_own ho⟩, b⟩

/-- what holds behind the switch -/
def MidN (w wx : World) : Prop := Blk wx w.heap.size 39 #[.string ⟨#[]⟩, .bool false] ∧ Blk wx (w.heap.size + 1) 39 #[.string ⟨#[]⟩, .bool false] ∧ Below w.heap.size w wx
/-- the world in which the kinds are told -/
abbrev WN (w : World) : World := (w.alloc (.cells #[.string ⟨#[]⟩, .bool false] 39)).alloc (.cells #[.string ⟨#[]⟩, .bool false] 39)
theorem WN.mid (w : World) : MidN w (WN w) := ⟨W2.arg w none ⟨#[]⟩, W2.res w none ⟨#[]⟩, W2.below w none ⟨#[]⟩⟩
theorem MidN.below {w wx wy : World} (h : MidN w wx) (b : Below wx.heap.size wx wy) : MidN w wy := ⟨h.1.keep (S := fun _ => False) (Mod.of_below b) id, h.2.1.keep (S := fun _ => False) (Mod.of_below b) id, h.2.2.trans (b.mono h.2.2.size)⟩
theorem MidN.drewN {w wx : World} (h : MidN w wx) (n : Nat) : MidN w (wx.drewN n) := h.below (below_drewN (Below.refl _ _) _)
theorem MidN.set {w wx : World} (h : MidN w wx) (o : Obj) : MidN w (((wx.setCell ⟨w.heap.size, 0, none⟩ (.string ⟨#[]⟩)).setCell ⟨w.heap.size, 1, none⟩ (.bool false)).alloc o) := by
  have m1 : Mod (At w.heap.size) wx (((wx.setCell ⟨w.heap.size, 0, none⟩ (.string ⟨#[]⟩)).setCell ⟨w.heap.size, 1, none⟩ (.bool false)).alloc o) := (mod_at (mod_at (Mod.refl _ _) 0 _) 1 _).alloc o
  refine ⟨(two_set h.1).alloc o, h.2.1.keep m1 (by show ¬ w.heap.size + 1 = w.heap.size; omega), h.2.2.trans (m1.below (by have := h.2.2.size; omega) (fun k hk => by have : k = w.heap.size := hk; omega))⟩

set_option linter.unusedSimpArgs false in
set_option maxRecDepth 100000 in
set_option maxHeartbeats 8000000 in
theorem nreads_any (v : Value) (k : Nat) (w : World) (h : NoRd w v) (hk : k ≤ 255) :
    Calls Try.prog 16 #[v, R0, .int .u8 k] w fun e w' => e = .returned (.tuple #[R0, .bool true]) ∧ Below w.heap.size w w' := by
  have HX : Hid (NoRd (WN w) v) := h.below (WN.mid w).2.2
  have HN := Lib.hid h
  obtain ⟨c7, hc7⟩ : ∃ c7, k % 7 = c7 := ⟨_, rfl⟩
  have hc7l : c7 < 7 := by omega
  have e7 : (k : Int) % 7 = (c7 : Int) := by omega
  have HM0 := Lib.hid (WN.mid w)
  clear h hc7
  go_enter Try.func16, Try.ntmps16
  go_upto_block 0 with fail
  go_cut [8, 31] (fun s8 s31 wx => s8 = .bool true ∧ MidN w wx)
  case first =>
    have hcases : c7 = 0 ∨ c7 = 1 ∨ c7 = 2 ∨ c7 = 3 ∨ c7 = 4 ∨ c7 = 5 ∨ c7 = 6 := by omega
    clear hc7l
    rcases hcases with rfl | rfl | rfl | rfl | rfl | rfl | rfl
    · have C := Lib.hid (nrnum v _ HX.out)
      go_wp2_with fail
      refine C.out.mono ?_
      rintro e w3 ⟨rfl, rfl⟩
      go_wp2_with fail
      refine (tk0_num _).mono ?_
      rintro e w4 ⟨rfl, b4⟩
      have HM4 := Lib.hid (HM0.out.below b4)
      have d0 : w4.cell? ⟨w.heap.size, 0, none⟩ = some (.string ⟨#[]⟩) := HM4.out.1.cell 0
      have d1 : w4.cell? ⟨w.heap.size, 1, none⟩ = some (.bool false) := HM4.out.1.cell 1
      have f0 := HM4.out.1.frozen 0
      have f1 := HM4.out.1.frozen 1
      have hz4 : w.heap.size < w4.heap.size := HM4.out.1.lt
      have HM := Lib.hid (HM4.out.set (.cells #[.string ⟨#[]⟩, .bool false] 39))
      go_wp2_with fail
      go_meet
      exact ⟨by simp, HM.out⟩
    · have C := Lib.hid (nrint v _ HX.out)
      go_wp2_with fail
      refine C.out.mono ?_
      rintro e w3 ⟨rfl, rfl⟩
      go_wp2_with fail
      refine (tk0_int _).mono ?_
      rintro e w4 ⟨rfl, b4⟩
      have HM4 := Lib.hid (HM0.out.below b4)
      have d0 : w4.cell? ⟨w.heap.size, 0, none⟩ = some (.string ⟨#[]⟩) := HM4.out.1.cell 0
      have d1 : w4.cell? ⟨w.heap.size, 1, none⟩ = some (.bool false) := HM4.out.1.cell 1
      have f0 := HM4.out.1.frozen 0
      have f1 := HM4.out.1.frozen 1
      have hz4 : w.heap.size < w4.heap.size := HM4.out.1.lt
      have HM := Lib.hid (HM4.out.set (.cells #[.string ⟨#[]⟩, .bool false] 39))
      go_wp2_with fail
      go_meet
      exact ⟨by simp, HM.out⟩
    · have C := Lib.hid (nrtruth v _ HX.out)
      go_wp2_with fail
      refine C.out.mono ?_
      rintro e w3 ⟨rfl, rfl⟩
      go_wp2_with fail
      refine (tk0_truth _).mono ?_
      rintro e w4 ⟨rfl, b4⟩
      have HM4 := Lib.hid (HM0.out.below b4)
      have d0 : w4.cell? ⟨w.heap.size, 0, none⟩ = some (.string ⟨#[]⟩) := HM4.out.1.cell 0
      have d1 : w4.cell? ⟨w.heap.size, 1, none⟩ = some (.bool false) := HM4.out.1.cell 1
      have f0 := HM4.out.1.frozen 0
      have f1 := HM4.out.1.frozen 1
      have hz4 : w.heap.size < w4.heap.size := HM4.out.1.lt
      have HM := Lib.hid (HM4.out.set (.cells #[.string ⟨#[]⟩, .bool false] 39))
      go_wp2_with fail
      go_meet
      exact ⟨by simp, HM.out⟩
    · have C := Lib.hid (nrtext v _ HX.out)
      go_wp2_with fail
      refine C.out.mono ?_
      rintro e w3 ⟨rfl, rfl⟩
      go_wp2_with fail
      refine (tk0_text _).mono ?_
      rintro e w4 ⟨rfl, b4⟩
      have HM4 := Lib.hid (HM0.out.below b4)
      have d0 : w4.cell? ⟨w.heap.size, 0, none⟩ = some (.string ⟨#[]⟩) := HM4.out.1.cell 0
      have d1 : w4.cell? ⟨w.heap.size, 1, none⟩ = some (.bool false) := HM4.out.1.cell 1
      have f0 := HM4.out.1.frozen 0
      have f1 := HM4.out.1.frozen 1
      have hz4 : w.heap.size < w4.heap.size := HM4.out.1.lt
      have HM := Lib.hid (HM4.out.set (.cells #[.string ⟨#[]⟩, .bool false] 39))
      go_wp2_with fail
      go_meet
      exact ⟨by simp, HM.out⟩
    · have C := Lib.hid (nrnums v _ HX.out)
      go_wp2_with fail
      refine C.out.mono ?_
      rintro e w3 ⟨rfl, rfl⟩
      go_wp2_with fail
      refine (tk0_nums _).mono ?_
      rintro e w4 ⟨⟨v4, rfl, hR⟩, b4⟩
      have HR := Lib.hid hR
      have HM4 := Lib.hid (HM0.out.below b4)
      have d0 : w4.cell? ⟨w.heap.size, 0, none⟩ = some (.string ⟨#[]⟩) := HM4.out.1.cell 0
      have d1 : w4.cell? ⟨w.heap.size, 1, none⟩ = some (.bool false) := HM4.out.1.cell 1
      have f0 := HM4.out.1.frozen 0
      have f1 := HM4.out.1.frozen 1
      have hz4 : w.heap.size < w4.heap.size := HM4.out.1.lt
      have HM := Lib.hid (HM4.out.set (.cells #[.string ⟨#[]⟩, .bool false] 39))
      have HS : Hid (∀ W, Calls Try.prog 50 #[.slice none 0 0, v4] W (TPost W (([] : List _) = []))) := fun W =>
        same_num (fun _ => False) (fun _ => False) _ v4 [] [] W (.inl ⟨rfl, rfl⟩) (row_nil HR.out) (by simp) (by simp)
      clear hR
      go_wp2_with fail
      refine (HS.out _).mono ?_
      rintro e w5 ⟨⟨bb, rfl, hbb⟩, d5⟩
      obtain rfl := hbb (by trivial)
      have HM5 : Hid (MidN w w5) := by
        obtain ⟨n5, rfl⟩ := d5
        exact HM.out.drewN n5
      clear d5 hbb
      go_wp2_with fail
      go_meet
      exact ⟨rfl, HM5.out⟩
    · have C := Lib.hid (nrints v _ HX.out)
      go_wp2_with fail
      refine C.out.mono ?_
      rintro e w3 ⟨rfl, rfl⟩
      go_wp2_with fail
      refine (tk0_ints _).mono ?_
      rintro e w4 ⟨⟨v4, rfl, hR⟩, b4⟩
      have HR := Lib.hid hR
      have HM4 := Lib.hid (HM0.out.below b4)
      have d0 : w4.cell? ⟨w.heap.size, 0, none⟩ = some (.string ⟨#[]⟩) := HM4.out.1.cell 0
      have d1 : w4.cell? ⟨w.heap.size, 1, none⟩ = some (.bool false) := HM4.out.1.cell 1
      have f0 := HM4.out.1.frozen 0
      have f1 := HM4.out.1.frozen 1
      have hz4 : w.heap.size < w4.heap.size := HM4.out.1.lt
      have HM := Lib.hid (HM4.out.set (.cells #[.string ⟨#[]⟩, .bool false] 39))
      have HS : Hid (∀ W, Calls Try.prog 52 #[.slice none 0 0, v4] W (TPost W (([] : List _) = []))) := fun W =>
        same_int (fun _ => False) (fun _ => False) _ v4 [] [] W (.inl ⟨rfl, rfl⟩) (row_nil HR.out) (by simp) (by simp)
      clear hR
      go_wp2_with fail
      refine (HS.out _).mono ?_
      rintro e w5 ⟨⟨bb, rfl, hbb⟩, d5⟩
      obtain rfl := hbb (by trivial)
      have HM5 : Hid (MidN w w5) := by
        obtain ⟨n5, rfl⟩ := d5
        exact HM.out.drewN n5
      clear d5 hbb
      go_wp2_with fail
      go_meet
      exact ⟨rfl, HM5.out⟩
    · have C := Lib.hid (nrtexts v _ HX.out)
      go_wp2_with fail
      refine C.out.mono ?_
      rintro e w3 ⟨rfl, rfl⟩
      go_wp2_with fail
      refine (tk0_texts _).mono ?_
      rintro e w4 ⟨⟨v4, rfl, hR⟩, b4⟩
      have HR := Lib.hid hR
      have HM4 := Lib.hid (HM0.out.below b4)
      have d0 : w4.cell? ⟨w.heap.size, 0, none⟩ = some (.string ⟨#[]⟩) := HM4.out.1.cell 0
      have d1 : w4.cell? ⟨w.heap.size, 1, none⟩ = some (.bool false) := HM4.out.1.cell 1
      have f0 := HM4.out.1.frozen 0
      have f1 := HM4.out.1.frozen 1
      have hz4 : w.heap.size < w4.heap.size := HM4.out.1.lt
      have HM := Lib.hid (HM4.out.set (.cells #[.string ⟨#[]⟩, .bool false] 39))
      have HS : Hid (∀ W, Calls Try.prog 54 #[.slice none 0 0, v4] W (TPost W (([] : List _) = []))) := fun W =>
        same_text (fun _ => False) (fun _ => False) _ v4 [] [] W (.inl ⟨rfl, rfl⟩) (row_nil HR.out) (by simp) (by simp)
      clear hR
      go_wp2_with fail
      refine (HS.out _).mono ?_
      rintro e w5 ⟨⟨bb, rfl, hbb⟩, d5⟩
      obtain rfl := hbb (by trivial)
      have HM5 : Hid (MidN w w5) := by
        obtain ⟨n5, rfl⟩ := d5
        exact HM.out.drewN n5
      clear d5 hbb
      go_wp2_with fail
      go_meet
      exact ⟨rfl, HM5.out⟩
  case rest =>
    obtain ⟨rfl, hM⟩ := hcut
    have HMM := Lib.hid hM
    have HX2 : Hid (NoRd wc.drew v) := (HN.out.below hM.2.2).below (below_drewN (Below.refl _ _) 1)
    have c0 : wc.cell? ⟨w.heap.size, 0, none⟩ = some (.string ⟨#[]⟩) := hM.1.cell 0
    have c1 : wc.cell? ⟨w.heap.size, 1, none⟩ = some (.bool false) := hM.1.cell 1
    have q0 : wc.cell? ⟨w.heap.size + 1, 0, none⟩ = some (.string ⟨#[]⟩) := hM.2.1.cell 0
    have q1 : wc.cell? ⟨w.heap.size + 1, 1, none⟩ = some (.bool false) := hM.2.1.cell 1
    have f0 := hM.2.1.frozen 0
    have f1 := hM.2.1.frozen 1
    have fin : Hid (∀ W, (W = ((wc.setCell ⟨w.heap.size + 1, 0, none⟩ (.string ⟨#[]⟩)).setCell ⟨w.heap.size + 1, 1, none⟩ (.bool false)).drew) → Blk W (w.heap.size + 1) 39 #[.string ⟨#[]⟩, .bool false] ∧ Below w.heap.size w W) := fun W e => by
      have m0 : Mod (At (w.heap.size + 1)) wc W := by rw [e]; exact (mod_at (mod_at (Mod.refl _ _) 0 _) 1 _).drew
      refine ⟨by rw [e]; exact (two_set HMM.out.2.1).drewN 1, HMM.out.2.2.trans (m0.below (by have := HMM.out.2.2.size; omega) (fun k hk => by have : k = w.heap.size + 1 := hk; omega))⟩
    clear hM
    have CF := Lib.hid (nrfine v _ HX2.out)
    have CL := Lib.hid (nrleft v _ HX2.out)
    have CE := Lib.hid (nrend v _ HX2.out)
    go_wp2_with fail
    refine wp_region_noPanic ?_
    refine wp_region_held_drew (S := fun w' => w'.cell? ⟨w.heap.size, 0, none⟩ = some (.string ⟨#[]⟩) ∧ w'.cell? ⟨w.heap.size, 1, none⟩ = some (.bool false)) (by kernel_rfl) (⟨c0, c1⟩) (fun hHeld => ?_)
    refine wpAnyH_take (i := 0) (v := ?_) (by rw [List.getElem?_toArray]; rfl) (by kernel_rfl) (by kernel_rfl) (by kernel_rfl) (fun _ _ _ h => h) (Or.inl ⟨by rfl, ?_⟩) (by assumption) ?_
    rotate_left
    · intro w hSw
      (try dsimp only at hSw)
      go_simp
      (try with_reducible rfl)
    rotate_left
    (try simp only [Act.put, List.setIfInBounds_toArray, List.set_cons_zero, List.set_cons_succ])
    refine wpAnyH_take (i := 1) (v := ?_) (by rw [List.getElem?_toArray]; rfl) (by kernel_rfl) (by kernel_rfl) (by kernel_rfl) (fun _ _ _ h => h) (Or.inl ⟨by rfl, ?_⟩) (by assumption) ?_
    rotate_left
    · intro w hSw
      (try dsimp only at hSw)
      go_simp
      (try with_reducible rfl)
    rotate_left
    (try simp only [Act.put, List.setIfInBounds_toArray, List.set_cons_zero, List.set_cons_succ])
    refine wpAnyH_take (i := 2) (v := ?_) (by rw [List.getElem?_toArray]; rfl) (by kernel_rfl) (by kernel_rfl) (by kernel_rfl) (fun _ _ _ h => h) (Or.inl ⟨by rfl, ?_⟩) (by assumption) ?_
    rotate_left
    · intro w hSw
      (try dsimp only at hSw)
      go_simp
      (try with_reducible rfl)
    rotate_left
    (try simp only [Act.put, List.setIfInBounds_toArray, List.set_cons_zero, List.set_cons_succ])
    refine wpAnyH_take (i := 3) (v := ?_) (by rw [List.getElem?_toArray]; rfl) (by kernel_rfl) (by kernel_rfl) (by kernel_rfl) (fun _ _ _ h => h) (Or.inl ⟨by rfl, ?_⟩) (by assumption) ?_
    rotate_left
    · intro w hSw
      (try dsimp only at hSw)
      go_simp
      (try with_reducible rfl)
    rotate_left
    (try simp only [Act.put, List.setIfInBounds_toArray, List.set_cons_zero, List.set_cons_succ])
    refine wpAnyH_take (i := 5) (v := ?_) (by rw [List.getElem?_toArray]; rfl) (by kernel_rfl) (by kernel_rfl) (by kernel_rfl) (fun _ _ _ h => h) (Or.inl ⟨by rfl, ?_⟩) (by assumption) ?_
    rotate_left
    · intro w hSw
      (try dsimp only at hSw)
      go_simp
      (try with_reducible rfl)
    rotate_left
    (try simp only [Act.put, List.setIfInBounds_toArray, List.set_cons_zero, List.set_cons_succ])
    refine wpAnyH_take (i := 6) (v := ?_) (by rw [List.getElem?_toArray]; rfl) (by kernel_rfl) (by kernel_rfl) (by kernel_rfl) (fun _ _ _ h => h) (Or.inl ⟨by rfl, ?_⟩) (by assumption) ?_
    rotate_left
    · intro w hSw
      (try dsimp only at hSw)
      go_simp
      (try with_reducible rfl)
    rotate_left
    (try simp only [Act.put, List.setIfInBounds_toArray, List.set_cons_zero, List.set_cons_succ])
    refine wpAnyH_ready (rs := [4]) (by kernel_rfl) (by simp) ?_
    refine AllReadyH.cons (by rw [List.getElem?_toArray]; rfl) (fun K hK => ?_) AllReadyH.nil
    go_simp
    refine (CF.out).mono ?_; rintro e w' ⟨rfl, rfl⟩
    refine hK.out _ _ ?_ (fun hHeld => ?_)
    · assumption
    clear hK K
    (try simp only [Act.put, List.setIfInBounds_toArray, List.set_cons_zero, List.set_cons_succ])
    refine wpAnyH_take (i := 7) (v := ?_) (by rw [List.getElem?_toArray]; rfl) (by kernel_rfl) (by kernel_rfl) (by kernel_rfl) (fun _ _ _ h => h) (Or.inl ⟨by rfl, ?_⟩) (by assumption) ?_
    rotate_left
    · intro w hSw
      (try dsimp only at hSw)
      go_simp
      (try with_reducible rfl)
    rotate_left
    (try simp only [Act.put, List.setIfInBounds_toArray, List.set_cons_zero, List.set_cons_succ])
    refine wpAnyH_take (i := 8) (v := ?_) (by rw [List.getElem?_toArray]; rfl) (by kernel_rfl) (by kernel_rfl) (by kernel_rfl) (fun _ _ _ h => h) (Or.inl ⟨by rfl, ?_⟩) (by assumption) ?_
    rotate_left
    · intro w hSw
      (try dsimp only at hSw)
      go_simp
      (try with_reducible rfl)
    rotate_left
    (try simp only [Act.put, List.setIfInBounds_toArray, List.set_cons_zero, List.set_cons_succ])
    refine wpAnyH_take (i := 9) (v := ?_) (by rw [List.getElem?_toArray]; rfl) (by kernel_rfl) (by kernel_rfl) (by kernel_rfl) (fun _ _ _ h => h) (Or.inl ⟨by rfl, ?_⟩) (by assumption) ?_
    rotate_left
    · intro w hSw
      (try dsimp only at hSw)
      go_simp
      (try with_reducible rfl)
    rotate_left
    (try simp only [Act.put, List.setIfInBounds_toArray, List.set_cons_zero, List.set_cons_succ])
    refine wpAnyH_take (i := 10) (v := ?_) (by rw [List.getElem?_toArray]; rfl) (by kernel_rfl) (by kernel_rfl) (by kernel_rfl) (fun _ _ _ h => h) (Or.inl ⟨by rfl, ?_⟩) (by assumption) ?_
    rotate_left
    · intro w hSw
      (try dsimp only at hSw)
      go_simp
      (try with_reducible rfl)
    rotate_left
    (try simp only [Act.put, List.setIfInBounds_toArray, List.set_cons_zero, List.set_cons_succ])
    refine wpAnyH_take (i := 12) (v := ?_) (by rw [List.getElem?_toArray]; rfl) (by kernel_rfl) (by kernel_rfl) (by kernel_rfl) (fun _ _ _ h => h) (Or.inl ⟨by rfl, ?_⟩) (by assumption) ?_
    rotate_left
    · intro w hSw
      (try dsimp only at hSw)
      go_simp
      (try with_reducible rfl)
    rotate_left
    (try simp only [Act.put, List.setIfInBounds_toArray, List.set_cons_zero, List.set_cons_succ])
    refine wpAnyH_take (i := 13) (v := ?_) (by rw [List.getElem?_toArray]; rfl) (by kernel_rfl) (by kernel_rfl) (by kernel_rfl) (fun _ _ _ h => h) (Or.inl ⟨by rfl, ?_⟩) (by assumption) ?_
    rotate_left
    · intro w hSw
      (try dsimp only at hSw)
      go_simp
      (try with_reducible rfl)
    rotate_left
    (try simp only [Act.put, List.setIfInBounds_toArray, List.set_cons_zero, List.set_cons_succ])
    refine wpAnyH_take (i := 14) (v := ?_) (by rw [List.getElem?_toArray]; rfl) (by kernel_rfl) (by kernel_rfl) (by kernel_rfl) (fun _ _ _ h => h) (Or.inl ⟨by rfl, ?_⟩) (by assumption) ?_
    rotate_left
    · intro w hSw
      (try dsimp only at hSw)
      go_simp
      (try with_reducible rfl)
    rotate_left
    (try simp only [Act.put, List.setIfInBounds_toArray, List.set_cons_zero, List.set_cons_succ])
    refine wpAnyH_ready (rs := [11]) (by kernel_rfl) (by simp) ?_
    refine AllReadyH.cons (by rw [List.getElem?_toArray]; rfl) (fun K hK => ?_) AllReadyH.nil
    go_simp
    refine (CL.out).mono ?_; rintro e w' ⟨rfl, rfl⟩
    refine hK.out _ _ ?_ (fun hHeld => ?_)
    · assumption
    clear hK K
    (try simp only [Act.put, List.setIfInBounds_toArray, List.set_cons_zero, List.set_cons_succ])
    refine wpAnyH_take (i := 15) (v := ?_) (by rw [List.getElem?_toArray]; rfl) (by kernel_rfl) (by kernel_rfl) (by kernel_rfl) (fun _ _ _ h => h) (Or.inl ⟨by rfl, ?_⟩) (by assumption) ?_
    rotate_left
    · intro w hSw
      (try dsimp only at hSw)
      go_simp
      (try with_reducible rfl)
    rotate_left
    (try simp only [Act.put, List.setIfInBounds_toArray, List.set_cons_zero, List.set_cons_succ])
    refine wpAnyH_take (i := 16) (v := ?_) (by rw [List.getElem?_toArray]; rfl) (by kernel_rfl) (by kernel_rfl) (by kernel_rfl) (fun _ _ _ h => h) (Or.inl ⟨by rfl, ?_⟩) (by assumption) ?_
    rotate_left
    · intro w hSw
      (try dsimp only at hSw)
      go_simp
      (try with_reducible rfl)
    rotate_left
    (try simp only [Act.put, List.setIfInBounds_toArray, List.set_cons_zero, List.set_cons_succ])
    refine wpAnyH_take (i := 17) (v := ?_) (by rw [List.getElem?_toArray]; rfl) (by kernel_rfl) (by kernel_rfl) (by kernel_rfl) (fun _ _ _ h => h) (Or.inl ⟨by rfl, ?_⟩) (by assumption) ?_
    rotate_left
    · intro w hSw
      (try dsimp only at hSw)
      go_simp
      (try with_reducible rfl)
    rotate_left
    (try simp only [Act.put, List.setIfInBounds_toArray, List.set_cons_zero, List.set_cons_succ])
    refine wpAnyH_take (i := 18) (v := ?_) (by rw [List.getElem?_toArray]; rfl) (by kernel_rfl) (by kernel_rfl) (by kernel_rfl) (fun _ _ _ h => h) (Or.inl ⟨by rfl, ?_⟩) (by assumption) ?_
    rotate_left
    · intro w hSw
      (try dsimp only at hSw)
      go_simp
      (try with_reducible rfl)
    rotate_left
    (try simp only [Act.put, List.setIfInBounds_toArray, List.set_cons_zero, List.set_cons_succ])
    refine wpAnyH_take (i := 21) (v := ?_) (by rw [List.getElem?_toArray]; rfl) (by kernel_rfl) (by kernel_rfl) (by kernel_rfl) (fun _ _ _ h => h) (Or.inl ⟨by rfl, ?_⟩) (by assumption) ?_
    rotate_left
    · intro w hSw
      (try dsimp only at hSw)
      go_simp
      (try with_reducible rfl)
    rotate_left
    (try simp only [Act.put, List.setIfInBounds_toArray, List.set_cons_zero, List.set_cons_succ])
    refine wpAnyH_take (i := 22) (v := ?_) (by rw [List.getElem?_toArray]; rfl) (by kernel_rfl) (by kernel_rfl) (by kernel_rfl) (fun _ _ _ h => h) (Or.inl ⟨by rfl, ?_⟩) (by assumption) ?_
    rotate_left
    · intro w hSw
      (try dsimp only at hSw)
      go_simp
      (try with_reducible rfl)
    rotate_left
    (try simp only [Act.put, List.setIfInBounds_toArray, List.set_cons_zero, List.set_cons_succ])
    refine wpAnyH_ready (rs := [19]) (by kernel_rfl) (by simp) ?_
    refine AllReadyH.cons (by rw [List.getElem?_toArray]; rfl) (fun K hK => ?_) AllReadyH.nil
    go_simp
    refine (CE.out).mono ?_; rintro e w' ⟨rfl, rfl⟩
    refine hK.out _ _ ?_ (fun hHeld => ?_)
    · assumption
    clear hK K
    (try simp only [Act.put, List.setIfInBounds_toArray, List.set_cons_zero, List.set_cons_succ])
    refine wpAnyH_take (i := 20) (v := ?_) (by rw [List.getElem?_toArray]; rfl) (by kernel_rfl) (by kernel_rfl) (by kernel_rfl) (fun _ _ _ h => h) (Or.inl ⟨by rfl, ?_⟩) (by assumption) ?_
    rotate_left
    · intro w hSw
      (try dsimp only at hSw)
      go_simp
      (try with_reducible rfl)
    rotate_left
    (try simp only [Act.put, List.setIfInBounds_toArray, List.set_cons_zero, List.set_cons_succ])
    refine wpAnyH_take (i := 23) (v := ?_) (by rw [List.getElem?_toArray]; rfl) (by kernel_rfl) (by kernel_rfl) (by kernel_rfl) (fun _ _ _ h => h) (Or.inl ⟨by rfl, ?_⟩) (by assumption) ?_
    rotate_left
    · intro w hSw
      (try dsimp only at hSw)
      go_simp
      (try with_reducible rfl)
    rotate_left
    (try simp only [Act.put, List.setIfInBounds_toArray, List.set_cons_zero, List.set_cons_succ])
    refine wpAnyH_take (i := 24) (v := undef) (by rw [List.getElem?_toArray]; rfl) (by kernel_rfl) (by kernel_rfl) (by kernel_rfl) (fun _ _ _ h => h) (Or.inr ⟨by kernel_rfl, rfl⟩) (by assumption) ?_
    (try simp only [Act.put, List.setIfInBounds_toArray, List.set_cons_zero, List.set_cons_succ])
    refine wpAnyH_take (i := 25) (v := undef) (by rw [List.getElem?_toArray]; rfl) (by kernel_rfl) (by kernel_rfl) (by kernel_rfl) (fun _ _ _ h => h) (Or.inr ⟨by kernel_rfl, rfl⟩) (by assumption) ?_
    (try simp only [Act.put, List.setIfInBounds_toArray, List.set_cons_zero, List.set_cons_succ])
    refine wpAnyH_take (i := 26) (v := undef) (by rw [List.getElem?_toArray]; rfl) (by kernel_rfl) (by kernel_rfl) (by kernel_rfl) (fun _ _ _ h => h) (Or.inr ⟨by kernel_rfl, rfl⟩) (by assumption) ?_
    (try simp only [Act.put, List.setIfInBounds_toArray, List.set_cons_zero, List.set_cons_succ])
    refine wpAnyH_take (i := 27) (v := undef) (by rw [List.getElem?_toArray]; rfl) (by kernel_rfl) (by kernel_rfl) (by kernel_rfl) (fun _ _ _ h => h) (Or.inr ⟨by kernel_rfl, rfl⟩) (by assumption) ?_
    (try simp only [Act.put, List.setIfInBounds_toArray, List.set_cons_zero, List.set_cons_succ])
    refine wpAnyH_take (i := 28) (v := ?_) (by rw [List.getElem?_toArray]; rfl) (by kernel_rfl) (by kernel_rfl) (by kernel_rfl) (fun _ _ _ h => h) (Or.inl ⟨by rfl, ?_⟩) (by assumption) ?_
    rotate_left
    · intro w hSw
      (try dsimp only at hSw)
      go_simp
      (try with_reducible rfl)
    rotate_left
    (try simp only [Act.put, List.setIfInBounds_toArray, List.set_cons_zero, List.set_cons_succ])
    refine wpAnyH_take (i := 29) (v := ?_) (by rw [List.getElem?_toArray]; rfl) (by kernel_rfl) (by kernel_rfl) (by kernel_rfl) (fun _ _ _ h => h) (Or.inl ⟨by rfl, ?_⟩) (by assumption) ?_
    rotate_left
    · intro w hSw
      (try dsimp only at hSw)
      go_simp
      (try with_reducible rfl)
    rotate_left
    (try simp only [Act.put, List.setIfInBounds_toArray, List.set_cons_zero, List.set_cons_succ])
    refine wpAnyH_take (i := 30) (v := ?_) (by rw [List.getElem?_toArray]; rfl) (by kernel_rfl) (by kernel_rfl) (by kernel_rfl) (fun _ _ _ h => h) (Or.inl ⟨by rfl, ?_⟩) (by assumption) ?_
    rotate_left
    · intro w hSw
      (try dsimp only at hSw)
      go_simp
      (try with_reducible rfl)
    rotate_left
    (try simp only [Act.put, List.setIfInBounds_toArray, List.set_cons_zero, List.set_cons_succ])
    refine wpAnyH_ready (rs := [31]) (by kernel_rfl) (by simp) ?_
    refine AllReadyH.cons (by rw [List.getElem?_toArray]; rfl) (fun K hK => ?_) AllReadyH.nil
    go_simp
    refine hK.out _ _ ?_ (fun hHeld => ?_)
    · go_keep
    clear hK K
    (try simp only [Act.put, List.setIfInBounds_toArray, List.set_cons_zero, List.set_cons_succ])
    refine wpAnyH_take (i := 32) (v := ?_) (by rw [List.getElem?_toArray]; rfl) (by kernel_rfl) (by kernel_rfl) (by kernel_rfl) (fun _ _ _ h => h) (Or.inl ⟨by rfl, ?_⟩) (by assumption) ?_
    rotate_left
    · intro w hSw
      (try dsimp only at hSw)
      go_simp
      (try with_reducible rfl)
    rotate_left
    (try simp only [Act.put, List.setIfInBounds_toArray, List.set_cons_zero, List.set_cons_succ])
    refine wpAnyH_done (by kernel_rfl) ?_ _
    refine NoPanic.normal ?_
    go_wp2_with fail
    (try simp only [Exit.inBlock, Exit.then])
    obtain ⟨k1, k3⟩ := fin.out _ rfl
    refine ⟨rfl, _, res_row2 rfl _ _ (w.heap.size + 1) (.string ⟨#[]⟩) (.bool false) rfl k1, ?_⟩
    exact ⟨rfl, k3⟩
end Go.Proofs.Ytfhceblmjahgjaa
