/- Contracts of style.CheckDecl, Resolve, Merge. Condition: a declaration's bits are a 16-bit number. -/
import Derived.Test.YthdihhfbkfenmaaY5
namespace Go.Proofs.Ythdihhfbkfenmaa
open Go.ChangeShapes Go.WideShapes Go.ChangeAt Go.RowKit

/-- as res_row_tmp, the second value named -/
theorem res_row_val {P : Program} {fn : Func} {p u : Tmp} {ty : TypeId} (h : fn.results = #[.cell p ty, .tmp u]) (tmps : Array Value) (w : World) (g : Nat) (t : TypeId) (cs : Array Value) (d : TypeDesc)
    (hp : tmps.getD p undef = .pointer (some ⟨g, 0, none⟩)) (hB : Blk w g t cs) (v : Value) (hv : tmps.getD u undef = v)
    (hu : P.underlying ty = some d) (hd : (match d with | .struct _ | .array _ _ => true | _ => false) = true) (hi : (P.info? ty).map (·.size) = some cs.size) :
    (results fn tmps).run P w = .ok (.tuple #[.agg cs, v]) w := by
  subst hv
  exact res_row_tmp h tmps w g t cs d hp hB hu hd hi

theorem chkD_is (d : Dcl) (h1 : d.n ≤ 255) (h2 : over .zero d = d.s) : chkD d = chk (over .zero d) := by
  unfold chkD vldD chk
  rw [decide_eq_true h1, decide_eq_true h2, h2]
  rfl
theorem chkD_eq (d : Dcl) (h2 : ¬ over .zero d = d.s) : chkD d = 60 := by
  unfold chkD vldD
  rw [decide_eq_false h2]
  simp
theorem chkD_high (d : Dcl) (h1 : ¬ d.n ≤ 255) : chkD d = 60 := by
  unfold chkD vldD
  rw [decide_eq_false h1]
  simp

set_option maxRecDepth 100000 in
set_option maxHeartbeats 2000000 in
theorem ychkd_any (d : Dcl) (w : World) (hn : d.n < 65536) :
    Calls Try.prog 14 #[.agg d.cells] w fun e w' => e = .returned (.int .i64 (chkD d)) ∧ Below w.heap.size w w' := by
  have CA : Hid (∀ w, Calls Try.prog 22 #[.agg Sty.zero.cells, .agg d.cells] w fun e w' => e = .returned (.agg (over .zero d).cells) ∧ Below w.heap.size w w') := fun w => yapply_any .zero d w hn
  have CC := Lib.hid (fun w => ycheck_any (over .zero d) w)
  have H1 := Lib.hid (chkD_is d)
  have H2 := Lib.hid (chkD_eq d)
  have H3 := Lib.hid (chkD_high d)
  obtain ⟨o, ho⟩ : ∃ o, over .zero d = o := ⟨_, rfl⟩
  rw [ho] at CA CC H1 H2
  clear ho
  obtain ⟨c, hc⟩ : ∃ c, chkD d = c := ⟨_, rfl⟩
  rw [hc] at H1 H2 H3 ⊢
  clear hc
  by_cases h255 : d.n ≤ 255
  · have hand := not_yes d.n h255
    by_cases he : o = d.s
    · have e := H1.out h255 he
      have hne := fun w => neS o d.s w true (decide_eq_true he)
      simp only [Bool.not_true] at hne
      clear he
      subst e
      clear H1 H2 H3
      go_enter Try.func14, Try.ntmps14
      go_wp2_with (first
        | (refine bxDV rfl (.tmp 0) rfl d rfl ?_; intro w1 b1 B1)
        | (refine ldD rfl (.tmp 1) rfl _ rfl d B1.lies ?_))
      refine (CA.out _).mono ?_
      rintro e w2 ⟨rfl, b2⟩
      have B2 := B1.keep (S := fun _ => False) (Mod.of_below b2) id
      go_wp2_with (first
        | (refine nwS rfl rfl 3 rfl rfl (.tmp 6) rfl rfl o (fun _ => rfl) (fun _ => rfl) ?_; intro w3 b3 B3; have B4 := B2.keep (S := fun _ => False) (Mod.of_below b3) id; have cn : w3.cell? ⟨w.heap.size, 0, none⟩ = some (.int .u16 d.n) := B4.cell 0)
        | (refine ldSIf (by kernel_rfl) (.tmp 3) rfl _ rfl o B3.lies ?_)
        | (refine ldSIf (by kernel_rfl) (.tmp 13) rfl _ rfl d.s B4.sub ?_))
      go_wp2_with (refine ldS rfl (.tmp 3) rfl _ rfl o B3.lies ?_)
      refine (CC.out _).mono ?_
      rintro e w4 ⟨rfl, b4⟩
      go_wp2_with fail
      go_ret
      exact ⟨rfl, below_seq (below_seq (below_seq b1 b2) b3) b4⟩
    · have e := H2.out he
      have hne := fun w => neS o d.s w false (decide_eq_false he)
      simp only [Bool.not_false] at hne
      clear he
      subst e
      clear H1 H2 H3
      go_enter Try.func14, Try.ntmps14
      go_wp2_with (first
        | (refine bxDV rfl (.tmp 0) rfl d rfl ?_; intro w1 b1 B1)
        | (refine ldD rfl (.tmp 1) rfl _ rfl d B1.lies ?_))
      refine (CA.out _).mono ?_
      rintro e w2 ⟨rfl, b2⟩
      have B2 := B1.keep (S := fun _ => False) (Mod.of_below b2) id
      go_wp2_with (first
        | (refine nwS rfl rfl 3 rfl rfl (.tmp 6) rfl rfl o (fun _ => rfl) (fun _ => rfl) ?_; intro w3 b3 B3; have B4 := B2.keep (S := fun _ => False) (Mod.of_below b3) id; have cn : w3.cell? ⟨w.heap.size, 0, none⟩ = some (.int .u16 d.n) := B4.cell 0)
        | (refine ldSIf (by kernel_rfl) (.tmp 3) rfl _ rfl o B3.lies ?_)
        | (refine ldSIf (by kernel_rfl) (.tmp 13) rfl _ rfl d.s B4.sub ?_))
      go_wp2_with fail
      go_ret
      exact ⟨rfl, below_seq (below_seq b1 b2) b3⟩
  · have e := H3.out h255
    have hand := not_no d.n hn h255
    subst e
    clear H1 H2 H3
    go_enter Try.func14, Try.ntmps14
    go_wp2_with (first
      | (refine bxDV rfl (.tmp 0) rfl d rfl ?_; intro w1 b1 B1)
      | (refine ldD rfl (.tmp 1) rfl _ rfl d B1.lies ?_))
    refine (CA.out _).mono ?_
    rintro e w2 ⟨rfl, b2⟩
    have B2 := B1.keep (S := fun _ => False) (Mod.of_below b2) id
    go_wp2_with (first
      | (refine nwS rfl rfl 3 rfl rfl (.tmp 6) rfl rfl o (fun _ => rfl) (fun _ => rfl) ?_; intro w3 b3 B3; have B4 := B2.keep (S := fun _ => False) (Mod.of_below b3) id; have cn : w3.cell? ⟨w.heap.size, 0, none⟩ = some (.int .u16 d.n) := B4.cell 0))
    go_wp2_with fail
    go_ret
    exact ⟨rfl, below_seq (below_seq b1 b2) b3⟩

set_option maxRecDepth 100000 in
set_option maxHeartbeats 2000000 in
theorem yresolve_any (s : Sty) (d : Dcl) (w : World) (hn : d.n < 65536) :
    Calls Try.prog 8 #[.agg s.cells, .agg d.cells] w fun e w' => e = .returned (.tuple #[.agg (resV s d).cells, .int .i64 (resE s d)]) ∧ Below w.heap.size w w' := by
  have CS := Lib.hid (fun w => ycheck_any s w)
  have CD := Lib.hid (fun w => ychkd_any d w hn)
  have CA := Lib.hid (fun w => yapply_any s d w hn)
  rcases chk_cases s with ⟨hv, hc⟩ | ⟨hv, hc⟩
  · rcases chkD_cases d with ⟨hv2, hc2⟩ | ⟨hv2, hc2⟩
    · have e1 : resV s d = over s d := by unfold resV; rw [hv, hv2]; rfl
      have e2 : resE s d = 0 := by unfold resE; rw [hv, hv2]; rfl
      rw [e1, e2]
      rw [hc] at CS
      rw [hc2] at CD
      clear hv hv2 hc hc2 e1 e2
      obtain ⟨o, ho⟩ : ∃ o, over s d = o := ⟨_, rfl⟩
      rw [ho] at CA ⊢
      clear ho
      go_enter Try.func8, Try.ntmps8
      go_wp2_with (first
        | (refine bxSV rfl (.tmp 0) rfl s rfl ?_; intro w1 b1 B1)
        | (refine bxDV rfl (.tmp 1) rfl d rfl ?_; intro w2 b2 B2)
        | (refine alSV rfl rfl ?_; intro w3 b3 B3)
        | (refine ldS rfl (.tmp 2) rfl _ rfl s (Blk.lies ((B1.keep (S := fun _ => False) (Mod.of_below b2) id).keep (S := fun _ => False) (Mod.of_below b3) id)) ?_))
      refine (CS.out _).mono ?_
      rintro e w4 ⟨rfl, b4⟩
      have hg3 : w.heap.size ≤ w2.heap.size := Nat.le_trans b1.size b2.size
      have K1 : Blk w4 w.heap.size 23 s.cells := ((B1.keep (S := fun _ => False) (Mod.of_below b2) id).keep (S := fun _ => False) (Mod.of_below b3) id).keep (S := fun _ => False) (Mod.of_below b4) id
      have K2 : Blk w4 w1.heap.size 26 d.cells := (B2.keep (S := fun _ => False) (Mod.of_below b3) id).keep (S := fun _ => False) (Mod.of_below b4) id
      have K3 : Blk w4 w2.heap.size 23 Sty.zero.cells := B3.keep (S := fun _ => False) (Mod.of_below b4) id
      have b03 := below_seq (below_seq b1 b2) b3
      clear b1 B1 b2 B2 b3 B3
      go_wp2_with (refine ldDIf (by kernel_rfl) (.tmp 3) rfl _ rfl d K2.lies ?_)
      refine (CD.out _).mono ?_
      rintro e w5 ⟨rfl, b5⟩
      have L1 := K1.keep (S := fun _ => False) (Mod.of_below b5) id
      have L2 := K2.keep (S := fun _ => False) (Mod.of_below b5) id
      have L3 := K3.keep (S := fun _ => False) (Mod.of_below b5) id
      clear K1 K2 K3
      go_wp2_with (first
        | (refine ldS rfl (.tmp 2) rfl _ rfl s L1.lies ?_)
        | (refine ldD rfl (.tmp 3) rfl _ rfl d L2.lies ?_))
      refine (CA.out _).mono ?_
      rintro e w6 ⟨rfl, b6⟩
      have M3 := L3.keep (S := fun _ => False) (Mod.of_below b6) id
      clear L1 L2 L3
      go_wp2_with (refine stS rfl (.tmp 4) (.tmp 17) rfl rfl _ rfl o rfl .zero M3 ?_; intro w7 m7 B7)
      exact bodyPost_ret (v := .tuple #[.agg o.cells, .int .i64 0]) (res_row_val rfl _ _ _ 23 _ _ rfl B7 _ rfl uS rfl iS) rfl ⟨rfl, (below_seq (below_seq b03 b4) (below_seq b5 b6)).trans (m7.below (below_seq (below_seq b03 b4) (below_seq b5 b6)).size (fun k hk => by rw [hk]; exact hg3))⟩
    · have e1 : resV s d = .zero := by unfold resV; rw [hv, hv2]; rfl
      have e2 : resE s d = 60 := by unfold resE; rw [hv, hv2]; rfl
      rw [e1, e2]
      rw [hc] at CS
      rw [hc2] at CD
      clear hv hv2 hc hc2 e1 e2
      go_enter Try.func8, Try.ntmps8
      go_wp2_with (first
        | (refine bxSV rfl (.tmp 0) rfl s rfl ?_; intro w1 b1 B1)
        | (refine bxDV rfl (.tmp 1) rfl d rfl ?_; intro w2 b2 B2)
        | (refine alSV rfl rfl ?_; intro w3 b3 B3)
        | (refine ldS rfl (.tmp 2) rfl _ rfl s (Blk.lies ((B1.keep (S := fun _ => False) (Mod.of_below b2) id).keep (S := fun _ => False) (Mod.of_below b3) id)) ?_))
      refine (CS.out _).mono ?_
      rintro e w4 ⟨rfl, b4⟩
      have hg3 : w.heap.size ≤ w2.heap.size := Nat.le_trans b1.size b2.size
      have K1 : Blk w4 w.heap.size 23 s.cells := ((B1.keep (S := fun _ => False) (Mod.of_below b2) id).keep (S := fun _ => False) (Mod.of_below b3) id).keep (S := fun _ => False) (Mod.of_below b4) id
      have K2 : Blk w4 w1.heap.size 26 d.cells := (B2.keep (S := fun _ => False) (Mod.of_below b3) id).keep (S := fun _ => False) (Mod.of_below b4) id
      have K3 : Blk w4 w2.heap.size 23 Sty.zero.cells := B3.keep (S := fun _ => False) (Mod.of_below b4) id
      have b03 := below_seq (below_seq b1 b2) b3
      clear b1 B1 b2 B2 b3 B3
      go_wp2_with (refine ldDIf (by kernel_rfl) (.tmp 3) rfl _ rfl d K2.lies ?_)
      refine (CD.out _).mono ?_
      rintro e w5 ⟨rfl, b5⟩
      have L3 := K3.keep (S := fun _ => False) (Mod.of_below b5) id
      clear K1 K2 K3
      go_wp2_with (refine stS rfl (.tmp 4) (.tmp 14) rfl rfl _ rfl .zero rfl .zero L3 ?_; intro w7 m7 B7)
      exact bodyPost_ret (v := .tuple #[.agg Sty.zero.cells, .int .i64 60]) (res_row_val rfl _ _ _ 23 _ _ rfl B7 _ rfl uS rfl iS) rfl ⟨rfl, (below_seq (below_seq b03 b4) b5).trans (m7.below (below_seq (below_seq b03 b4) b5).size (fun k hk => by rw [hk]; exact hg3))⟩
  · have e1 : resV s d = .zero := by unfold resV; rw [hv]; rfl
    have e2 : resE s d = 60 := by unfold resE; rw [hv]; rfl
    rw [e1, e2]
    rw [hc] at CS
    clear hv hc e1 e2
    go_enter Try.func8, Try.ntmps8
    go_wp2_with (first
      | (refine bxSV rfl (.tmp 0) rfl s rfl ?_; intro w1 b1 B1)
      | (refine bxDV rfl (.tmp 1) rfl d rfl ?_; intro w2 b2 B2)
      | (refine alSV rfl rfl ?_; intro w3 b3 B3)
      | (refine ldS rfl (.tmp 2) rfl _ rfl s (Blk.lies ((B1.keep (S := fun _ => False) (Mod.of_below b2) id).keep (S := fun _ => False) (Mod.of_below b3) id)) ?_))
    refine (CS.out _).mono ?_
    rintro e w4 ⟨rfl, b4⟩
    have hg3 : w.heap.size ≤ w2.heap.size := Nat.le_trans b1.size b2.size
    have K1 : Blk w4 w.heap.size 23 s.cells := ((B1.keep (S := fun _ => False) (Mod.of_below b2) id).keep (S := fun _ => False) (Mod.of_below b3) id).keep (S := fun _ => False) (Mod.of_below b4) id
    have K2 : Blk w4 w1.heap.size 26 d.cells := (B2.keep (S := fun _ => False) (Mod.of_below b3) id).keep (S := fun _ => False) (Mod.of_below b4) id
    have K3 : Blk w4 w2.heap.size 23 Sty.zero.cells := B3.keep (S := fun _ => False) (Mod.of_below b4) id
    have b03 := below_seq (below_seq b1 b2) b3
    clear b1 B1 b2 B2 b3 B3
    go_wp2_with (refine stS rfl (.tmp 4) (.tmp 14) rfl rfl _ rfl .zero rfl .zero K3 ?_; intro w7 m7 B7)
    exact bodyPost_ret (v := .tuple #[.agg Sty.zero.cells, .int .i64 60]) (res_row_val rfl _ _ _ 23 _ _ rfl B7 _ rfl uS rfl iS) rfl ⟨rfl, (below_seq b03 b4).trans (m7.below (below_seq b03 b4).size (fun k hk => by rw [hk]; exact hg3))⟩
end Go.Proofs.Ythdihhfbkfenmaa
